/-
  A helper of ours: no claim of its own. A range over a function that tells things in an order not known ahead: what was told is a list.
-/
import Derived.Test.YtljkneajdndgjaaGreatHopA
import Derived.RangeFuncNested
import Derived.Test.YtljkneajdndgjaaGreatRfw
import Derived.Test.YtljkneajdndgjaaGreatReg
import Derived.Test.YtljkneajdndgjaaGreatEdgM
import Derived.Test.YtljkneajdndgjaaGreatRx
set_option linter.unusedVariables false
set_option linter.unusedSimpArgs false
namespace Go.Proofs.YtljkneajdndgjaaGreat
open Go.RowKit
section
variable {β : Type} {P : Program} {g : Operand} {ps : Array Tmp} {assign body : Code} {Q : Exit → Act → World → Prop} {a : Act} {w w0 : World} {gf : Nat} {Kp : World → Prop} {lb : Array Value} {H : β → Array Value → World → Prop} {xs : List β}
/-- The statement 'for .. := range g { .. }', within a round of another. -/
theorem wp_rangeKN {l₀ : Nat} (hl₀ : ∃ r, w.heap[l₀]? = some (.loop r)) (hg : a.eval g = .func (.func gf) #[] lb) (eg : ∀ args w, (callFunc gf args).run P w = .ok (.enter gf args) w)
    (hseq : SeqsK Kp P gf lb H xs w0) (hb0 : Ext w0 w) (hps : ∀ x vs W, H x vs W → vs.size = ps.size) (hH : ∀ x vs, Stab w.heap.size (H x vs))
    (I : Nat → World → Prop) (hKp : ∀ k A, I k A → Kp A) (hCl : ∀ k, Cls w.heap.size (I k)) (Ix : Code → Nat → World → Prop) (hI : ∀ k, Stab w.heap.size (I k)) (hIx : ∀ c k, Stab w.heap.size (Ix c k)) (h0 : I 0 w)
    (Ax : Nat → β → Array Value → Act → World → Prop) (hAx : ∀ k x vs a', Stab w.heap.size (Ax k x vs a'))
    (hassign : ∀ (l k : Nat) (x : β) (vs : Array Value) (W : World) (K : Act → World → Prop), I k W → H x vs W → (∀ a' W', Ext W W' → Ax k x vs a' W' → K a' W') →
      assign.wpIn (Fence.wide.inRound l) 0 P (Exit.then K fun _ _ _ => False) { tmps := (ps.zip vs).foldl (fun t (p, v) => t.setIfInBounds p v) a.tmps, defers := [] } W)
    (hbody : ∀ (l k : Nat) (x : β) (vs : Array Value) (a' : Act) (W : World), xs[k]? = some x → I k W → H x vs W → Ax k x vs a' W →
      body.wpIn (Fence.wide.inRound l) 0 P (rfPostK w.heap.size I Ix (k + 1) W) a' W)
    (hdone : ∀ (W : World), I xs.length W → Q .normal a W)
    (hstop : ∀ (c : Code) (k : Nat) (W : World), k ≤ xs.length → Ix c k W → c.wpIn (Fence.wide.inRound l₀) 0 P Q a W) :
    (Code.rangeFunc g ps assign body).wpIn (Fence.wide.inRound l₀) 0 P Q a w := by
  refine wpIn_rangeFunc fun fn _ => ?_
  obtain ⟨r₀, hl₀⟩ := hl₀
  obtain ⟨B, hBe⟩ : ∃ B, B = w.heap.size := ⟨_, rfl⟩
  rw [← hBe] at hH hI hIx hAx hCl hbody
  -- the loop's record
  let rc : LoopState → Option Code → Loop := fun st pe => { state := st, pending := pe, fn, tmps := a.tmps, params := ps, assign, body, defers := r₀.defers }
  have hW1 : ∃ W1, W1 = w.alloc (.loop (rc .ready none)) := ⟨_, rfl⟩
  obtain ⟨W1, hW1⟩ := hW1
  have hXW : Ext w W1 := by rw [hW1]; exact (Ext.refl w).alloc _
  have hlp : W1.heap[B]? = some (.loop (rc .ready none)) := by
    have := World.alloc_heap_new w (.loop (rc .ready none))
    rw [← hBe, ← hW1] at this; exact this
  refine ⟨B, [], W1, { target := .fn (.func gf) lb, args := #[.func (.yield B) #[] #[]] }, W1, gf, #[.func (.yield B) #[] #[]] ++ lb, W1, ?_, ?_, fun _ _ => trivial, ?_, fun h => by simp [Fence.wide, Fence.inRound] at h, callsIn_wide.2 ?_⟩
  · have h1 := run_enterLoop_inner (P := P) (w := w) hl₀ fn a.tmps ps assign body
    rw [← hBe] at h1
    rw [hW1]
    exact h1
  · simp only [resolve, hg]
    simp [go_sem]
  · simp [invoke, go_sem, eg]
  have keep : ∀ {A C : World} {k : Nat} {o : Obj}, A.heap[k]? = some o → Ext A C → C.heap[k]? = some o := fun h e => (e.block _ (lt_of_block h)).trans h
  have hWs : W1.heap.size = B + 1 := by rw [hW1]; simp; omega
  have setk : ∀ {A : World} {b k : Nat} {T : TypeId} {vs : List Value} {o : Obj} {p : Nat} {u : Value}, A.heap[k]? = some o → Ob A b T vs → b ≠ k → (A.setCell ⟨b, p, none⟩ u).heap[k]? = some o := fun hk _ hne => (Below.heap_setCell _ ⟨_, _, none⟩ _ _ (Ne.symm hne)).trans hk
  have blk : ∀ {A : World} {l k : Nat} {o o' p : Obj}, W1.heap.size ≤ l → A.heap[k]? = some p → k < B + 1 → (A.putObj l o').heap[k]? = some p := fun hl hk hlt => (World.putObj_heap_other (by omega)).trans hk
  refine (hseq B (fun k W => I k W ∧ W.heap[B]? = some (.loop (rc .ready none)))
    (fun k W => ∃ c, Ix c k W ∧ W.heap[B]? = some (.loop (rc .done (some c)))) W1 (hb0.trans hXW)
    (fun k => ⟨fun A C h e => ⟨(hI k).ext A C h.1 e, keep h.2 e⟩, fun A l o o' h hl ho hc => ⟨(hI k).put A l o o' h.1 (by omega) ho hc, blk (o := o) hl h.2 (by omega)⟩⟩)
    (fun k => ⟨fun A C ⟨c, h1, h2⟩ e => ⟨c, (hIx c k).ext A C h1 e, keep h2 e⟩, fun A l o o' ⟨c, h1, h2⟩ hl ho hc => ⟨c, (hIx c k).put A l o o' h1 (by omega) ho hc, blk (o := o) hl h2 (by omega)⟩⟩)
    (fun k A b o u vs h hb ho => ⟨hCl k A b o u vs h.1 (by omega) ho, setk h.2 ho (by omega)⟩) (fun k A h => hKp k A h.1) ?_ ⟨(hI 0).ext _ _ h0 hXW, hlp⟩).mono ?_
  · -- a round
    rintro k x vs W hx ⟨hi, hl⟩ hh
    refine ⟨fn, _, assign, body, run_yield hl (hps x vs W hh), roundIn_of_wpIn trivial (hassign _ k x vs W _ hi hh fun a' Wa hXa hax => ?_)⟩
    have hl1 := keep hl hXa
    have hlt := lt_of_block hl1
    refine ⟨_, run_beginRound hl1 rfl, ?_⟩
    obtain ⟨Wb, hWb⟩ : ∃ Wb, Wb = Wa.putObj B (.loop { rc .ready none with state := .busy }) := ⟨_, rfl⟩
    have hl2 : Wb.heap[B]? = some (.loop { rc .ready none with state := .busy }) := by rw [hWb]; exact World.putObj_heap_same hlt
    have lift : ∀ {p : World → Prop}, Stab B p → p Wa → p Wb := fun hp h => by rw [hWb]; exact hp.put _ _ _ _ h (by omega) hl1 rfl
    have hKw : KeepsFrom W1.heap.size W Wb := by
      rw [hWb]
      exact keepsF_trans (keeps_ext hXa) (keepsF_put (by omega) _)
    have hFw : Qk B W Wb := by
      rw [hWb]
      exact (Qk.of_ext hXa).trans (Qk.put hl1 rfl)
    rw [← hWb]
    refine wpIn_mono (hbody _ k x vs a' Wb hx (lift (hI k) ((hI k).ext _ _ hi hXa)) (lift (hH x vs) ((hH x vs).ext _ _ hh hXa)) (lift (hAx k x vs a') hax)) ?_
    have fin : ∀ (jump : Option Code) (W3 : World), KeepsFrom B Wb W3 → ∃ W4, (Instr.endRound B jump).run P W3 = .ok (.bool jump.isNone) W4 ∧
        (∀ p : World → Prop, Stab B p → p W3 → p W4) ∧ W4.heap[B]? = some (.loop (rc (if jump.isNone then .ready else .done) jump)) ∧ KeepsFrom W1.heap.size W3 W4 ∧ Qk B W3 W4 := by
      intro jump W3 hk
      have hl3 := hk.same _ _ (Nat.le_refl _) hl2 rfl
      exact ⟨_, run_endRound jump hl3, fun p hp h => hp.put _ _ _ _ h (Nat.le_refl _) hl3 rfl, World.putObj_heap_same (lt_of_block hl3), keepsF_put (by omega) _, Qk.put hl3 rfl⟩
    rintro e a3 W3 hp
    cases e with
    | normal =>
      obtain ⟨hk3, hi3, hf3⟩ := hp
      obtain ⟨W4, hr, hs, h4, h7, h8⟩ := fin none W3 hk3
      exact ⟨_, W4, hr, .inl ⟨rfl, ⟨hs _ (hI _) hi3, h4⟩, keepsF_trans (keepsF_trans hKw (keepsF_mono hk3 (by omega))) h7, ((hFw.trans hf3).trans h8).mono (by omega)⟩⟩
    | ret =>
      obtain ⟨hk3, hi3⟩ := hp
      obtain ⟨W4, hr, hs, h4, h7, -⟩ := fin (some .ret) W3 hk3
      exact ⟨_, W4, hr, .inr ⟨rfl, ⟨.ret, hs _ (hIx _ _) hi3, h4⟩, keepsF_trans (keepsF_trans hKw (keepsF_mono hk3 (by omega))) h7⟩⟩
    | exit id =>
      obtain ⟨hk3, hi3⟩ := hp
      obtain ⟨W4, hr, hs, h4, h7, -⟩ := fin (some (.exit id)) W3 hk3
      exact ⟨_, W4, hr, .inr ⟨rfl, ⟨.exit id, hs _ (hIx _ _) hi3, h4⟩, keepsF_trans (keepsF_trans hKw (keepsF_mono hk3 (by omega))) h7⟩⟩
    | goto t =>
      obtain ⟨hk3, hi3⟩ := hp
      obtain ⟨W4, hr, hs, h4, h7, -⟩ := fin (some (.goto t)) W3 hk3
      exact ⟨_, W4, hr, .inr ⟨rfl, ⟨.goto t, hs _ (hIx _ _) hi3, h4⟩, keepsF_trans (keepsF_trans hKw (keepsF_mono hk3 (by omega))) h7⟩⟩
    | panic ch => exact hp.elim
    | outgrown => exact hp.elim
  · -- behind it
    rintro e W2 ⟨⟨v, rfl⟩, ⟨hi, hl⟩ | ⟨k, hk, c, hi, hl⟩⟩
    · exact ⟨none, _, run_endLoop hl (by intro h; cases h), hdone _ ((hI _).put _ _ _ _ hi (Nat.le_refl _) hl rfl)⟩
    · exact ⟨some c, _, run_endLoop hl (by intro h; cases h), hstop c k _ hk ((hIx c k).put _ _ _ _ hi (Nat.le_refl _) hl rfl)⟩
end

end Go.Proofs.YtljkneajdndgjaaGreat
set_option linter.unusedVariables false
set_option linter.unusedSimpArgs false
namespace Go.Proofs.YtljkneajdndgjaaGreat
open Go.RowKit
theorem rw_box {W : World} {S : List Nat} {v : Value} {r : List Vl} {b : Nat} {T : TypeId} {A : Option Addr} {n cap : Nat} (h : Rw W S v r) (o : Ob W b T [.slice A n cap]) : Rw W (b :: S) v r := by
  obtain ⟨B, k, rfl, h1, h2, h3, h4⟩ := h
  refine ⟨B, k, rfl, h1, h2, h3, ?_⟩
  rcases h4 with h4 | ⟨c, p, e, hcS, hc⟩
  · exact .inl h4
  · rcases r with _ | ⟨x, r⟩
    · exact .inl rfl
    · refine .inr ⟨c, p, e, ?_, hc⟩
      intro hcb
      rcases List.mem_cons.1 hcb with hcb | hcb
      · subst hcb
        have q := hc 0 (.int .i64 x.1) rfl
        rw [cell_of_row W c (p + 0) _ T (0, 0) o] at q
        rcases p with _ | p
        · simp at q
        · simp at q
      · exact hcS hcb
theorem ew_box {W : World} {S : List Nat} {v : Value} {L : List Ve} {b : Nat} {T : TypeId} {A : Option Addr} {n cap : Nat} (h : Ew W S v L) (o : Ob W b T [.slice A n cap]) : Ew W (b :: S) v L := by
  refine ⟨?_, fun p hp => rw_box (h.2 p hp) o⟩
  obtain ⟨B, k, rfl, h1, h2, h3, h4⟩ := h.1
  refine ⟨B, k, rfl, h1, h2, h3, ?_⟩
  rcases h4 with h4 | ⟨c, p, e, hcS, hc⟩
  · exact .inl h4
  · rcases L with _ | ⟨x, L⟩
    · exact .inl rfl
    · refine .inr ⟨c, p, e, ?_, hc⟩
      intro hcb
      rcases List.mem_cons.1 hcb with hcb | hcb
      · subst hcb
        have q := hc 1 (.int .i64 x.2.2.1) rfl
        rw [cell_of_row W c (p + 1) _ T (0, 0) o] at q
        simp at q
      · exact hcS hcb
end Go.Proofs.YtljkneajdndgjaaGreat
set_option linter.unusedVariables false
set_option linter.unusedSimpArgs false
namespace Go.Proofs.YtljkneajdndgjaaGreat
open Go.RowKit

section
variable {P : Program} {ops : Array Oper} {Φ : Nat → Value → World → Prop} {Q : Exit → Act → World → Prop} {a : Act} {W : World} {G : World → World → Prop} {J : (Nat → Bool) → World → Prop} {K : List Nat}

def done (Lf : Nat → Bool) (i : Nat) : Nat → Bool := fun j => if j = i then true else Lf j
structure RAt2 (ops : Array Oper) (Φ : Nat → Value → World → Prop) (G : World → World → Prop) (J : (Nat → Bool) → World → Prop) (a : Act) (W : World) (i : Nat) (Lf : Nat → Bool) (b : Act) (w : World) : Prop where
  ext : G W w
  defers : b.defers = a.defers
  size : b.tmps.size = a.tmps.size
  else_ : ∀ t, t ∉ dstsOf ops → b.tmps.getD t undef = a.tmps.getD t undef
  dep : ∀ j o d, depB ops i j = true → ops[j]? = some o → o.dst = some d → Φ j (b.tmps.getD d undef) w
  deps : ∀ j, depB ops i j = true → Lf j = true
  fresh : Lf i = false
  obj : J Lf w
structure RInv2 (ops : Array Oper) (Φ : Nat → Value → World → Prop) (G : World → World → Prop) (J : (Nat → Bool) → World → Prop) (a : Act) (W : World) (listed : Array Bool) (b : Act) (w : World) : Prop where
  ext : G W w
  defers : b.defers = a.defers
  size : b.tmps.size = a.tmps.size
  len : listed.size = ops.size
  else_ : ∀ t, t ∉ dstsOf ops → b.tmps.getD t undef = a.tmps.getD t undef
  fact : ∀ j o d, ops[j]? = some o → listed.getD j false = true → o.dst = some d → Φ j (b.tmps.getD d undef) w
  obj : J (fun j => listed.getD j false) w

/-- Facts that stay where all but the blocks of S stay. -/
inductive FactS (S : List Nat) where
  | is (v : Value)
  | st (p : Value → World → Prop) (h : ∀ v w w', p v w → Fr S w w' → p v w')
  | any
def FactS.holds {S : List Nat} : FactS S → Value → World → Prop
  | .is u, v, _ => v = u
  | .st p _, v, w => p v w
  | .any, _, _ => True
theorem FactS.stays {S : List Nat} (f : FactS S) (v : Value) (w w' : World) (h : f.holds v w) (hx : Fr S w w') : f.holds v w' := by
  cases f with
  | is u => exact h
  | st p hp => exact hp v w w' h hx
  | any => trivial
def factsS {S : List Nat} (L : List (FactS S)) (i : Nat) (v : Value) (w : World) : Prop := (L.getD i .any).holds v w
end
end Go.Proofs.YtljkneajdndgjaaGreat
set_option linter.unusedVariables false
set_option linter.unusedSimpArgs false
namespace Go.Proofs.YtljkneajdndgjaaGreat
open Go.RowKit
section
variable {P : Program} {ops : Array Oper} {Φ : Nat → Value → World → Prop} {Q : Exit → Act → World → Prop} {a : Act} {W : World} {G : World → World → Prop} {d0 : Nat} {J : (Nat → Bool) → Value → World → Prop} {K : List Nat}
structure RAt5 (ops : Array Oper) (Φ : Nat → Value → World → Prop) (G : World → World → Prop) (d0 : Nat) (J : (Nat → Bool) → Value → World → Prop) (a : Act) (W : World) (i : Nat) (Lf : Nat → Bool) (b : Act) (w : World) : Prop where
  ext : G W w
  defers : b.defers = a.defers
  size : b.tmps.size = a.tmps.size
  else_ : ∀ t, t ∉ dstsOf ops → b.tmps.getD t undef = a.tmps.getD t undef
  dep : ∀ j o d, depB ops i j = true → ops[j]? = some o → o.dst = some d → Φ j (b.tmps.getD d undef) w
  deps : ∀ j, depB ops i j = true → Lf j = true
  fresh : Lf i = false
  obj : J Lf (b.tmps.getD d0 undef) w
/-- An operation that turns an object. -/
def RGood5 (P : Program) (ops : Array Oper) (Φ : Nat → Value → World → Prop) (G : World → World → Prop) (d0 : Nat) (J : (Nat → Bool) → Value → World → Prop) (Q : Exit → Act → World → Prop) (i : Nat) (o : Oper) (Lf : Nat → Bool) (b : Act) (w : World) : Prop :=
  (Region.wanted o (yielded ops b.tmps) = true ∧ o.wp P b w (fun b' w' => ∃ v, b' = b.put o.dst v ∧ Φ i v w' ∧ G w w' ∧ J (done Lf i) ((b.put o.dst v).tmps.getD d0 undef) w') Q) ∨ (Region.wanted o (yielded ops b.tmps) = false ∧ Φ i undef w ∧ J (done Lf i) ((b.put o.dst undef).tmps.getD d0 undef) w)

structure RInv5 (ops : Array Oper) (Φ : Nat → Value → World → Prop) (G : World → World → Prop) (d0 : Nat) (J : (Nat → Bool) → Value → World → Prop) (a : Act) (W : World) (listed : Array Bool) (b : Act) (w : World) : Prop where
  ext : G W w
  defers : b.defers = a.defers
  size : b.tmps.size = a.tmps.size
  len : listed.size = ops.size
  else_ : ∀ t, t ∉ dstsOf ops → b.tmps.getD t undef = a.tmps.getD t undef
  fact : ∀ j o d, ops[j]? = some o → listed.getD j false = true → o.dst = some d → Φ j (b.tmps.getD d undef) w
  obj : J (fun j => listed.getD j false) (b.tmps.getD d0 undef) w

theorem wpAny_facts5 (hA : acycB ops = true) (hD : dstsB ops a.tmps.size = true) (hGt : ∀ x y z, G x y → G y z → G x z) (hst : ∀ i v w w', Φ i v w → G w w' → Φ i v w')
    (hstep : ∀ i o, ops[i]? = some o → ∀ b w Lf, RAt5 ops Φ G d0 J a W i Lf b w → RGood5 P ops Φ G d0 J Q i o Lf b w)
    (hend : ∀ b w, G W w → b.defers = a.defers → b.tmps.size = a.tmps.size → (∀ t, t ∉ dstsOf ops → b.tmps.getD t undef = a.tmps.getD t undef) →
      (∀ j o d, ops[j]? = some o → o.dst = some d → Φ j (b.tmps.getD d undef) w) → (∀ Lf, (∀ j, j < ops.size → Lf j = true) → (∀ j, ops.size ≤ j → Lf j = false) → J Lf (b.tmps.getD d0 undef) w) → Q .normal b w) :
    ∀ (f : Nat) (listed : Array Bool) (b : Act) (w : World), RInv5 ops Φ G d0 J a W listed b w → cntF listed.toList ≤ f → wpAny P .any ops Q f listed b w := by
  have fin : ∀ (listed : Array Bool) (b : Act) (w : World), RInv5 ops Φ G d0 J a W listed b w → (∀ j, j < ops.size → listed.getD j false = true) → Q .normal b w := by
    intro listed b w I hl
    refine hend b w I.ext I.defers I.size I.else_ (fun j o d ho hd => I.fact j o d ho (hl j (Array.getElem?_eq_some_iff.1 ho).1) hd) fun Lf h1 h2 => ?_
    have e : Lf = fun j => listed.getD j false := by
      funext j
      rcases Nat.lt_or_ge j ops.size with h | h
      · rw [h1 j h, hl j h]
      · rw [h2 j h]; have := I.len; simp [Array.getD, show ¬ j < listed.size by omega]
    rw [e]; exact I.obj
  intro f
  induction f with
  | zero =>
    intro listed b w I hc
    have hl : ∀ j, j < ops.size → listed.getD j false = true := fun j hj => cntF_zero listed.toList j _ (by omega) (by simpa using getD_some (by have := I.len; omega))
    refine ⟨?_, fin _ _ _ I hl⟩
    cases hr : Region.ready .any ops listed with
    | nil => rfl
    | cons j r =>
      have := (mem_ready.1 (show j ∈ Region.ready .any ops listed by rw [hr]; simp))
      obtain ⟨h1, o, ho, _⟩ := this
      have hj := (Array.getElem?_eq_some_iff.1 ho).1
      have h2 := hl j hj
      have hjl : j < listed.size := by have := I.len; omega
      have e1 := getD_some (l := listed) (d := false) hjl
      have e2 := getD_some (l := listed) (d := true) hjl
      rw [e1] at e2; have := Option.some.inj e2; rw [h1, h2] at this; cases this
  | succ f ih =>
    intro listed b w I hc
    refine ⟨fun hr => fin _ _ _ I (all_listed hA I.len hr), fun i hi => ?_⟩
    obtain ⟨h1, o, ho, hdep⟩ := mem_ready.1 hi
    have hj := (Array.getElem?_eq_some_iff.1 ho).1
    have hjl : i < listed.size := by have := I.len; omega
    have hdl : ∀ j, depB ops i j = true → listed.getD j false = true := by
      intro j hd
      unfold depB at hd; rw [ho] at hd
      obtain ⟨k, hk, he⟩ := Array.any_eq_true.1 hd
      simp only [Bool.and_eq_true, beq_iff_eq] at he
      have := hdep _ (Array.getElem_mem hk) he.1
      rwa [he.2] at this
    have e12 : listed.getD i false = false := by
      have e1 := getD_some (l := listed) (d := false) hjl
      have e2 := getD_some (l := listed) (d := true) hjl
      rw [e1] at e2; rw [Option.some.inj e2]; exact h1
    have hat : RAt5 ops Φ G d0 J a W i (fun j => listed.getD j false) b w := ⟨I.ext, I.defers, I.size, I.else_, fun j p d hd hp hpd => I.fact j p d hp (hdl j hd) hpd, hdl, e12, I.obj⟩
    have hget : (listed.toList)[i]? = some false := by
      have e2 := getD_some (l := listed) (d := true) hjl
      rw [h1] at e2; simpa using e2
    have hcnt : cntF (listed.setIfInBounds i true).toList ≤ f := by
      have := cntF_set listed.toList i hget
      simp only [Array.toList_setIfInBounds]; omega
    have hset : (fun j => (listed.setIfInBounds i true).getD j false) = done (fun j => listed.getD j false) i := by
      funext j
      unfold done
      show (listed.setIfInBounds i true).getD j false = if j = i then true else listed.getD j false
      rw [Array.getD_eq_getD_getElem?, Array.getElem?_setIfInBounds]
      by_cases hij : i = j
      · subst hij; simp [hjl]
      · rw [if_neg hij, if_neg (Ne.symm hij), Array.getD_eq_getD_getElem?]
    have go : ∀ (v : Value) (w' : World), Φ i v w' → (G w w' ∨ w = w') → J (done (fun j => listed.getD j false) i) ((b.put o.dst v).tmps.getD d0 undef) w' → wpAny P .any ops Q f (listed.setIfInBounds i true) (b.put o.dst v) w' := by
      intro v w' hv hx hJ
      have hG : G W w' := by
        rcases hx with hx | rfl
        · exact hGt _ _ _ I.ext hx
        · exact I.ext
      have hS : ∀ j u, Φ j u w → Φ j u w' := by
        intro j u hu
        rcases hx with hx | rfl
        · exact hst _ _ _ _ hu hx
        · exact hu
      refine ih _ _ _ ⟨hG, put_defers.trans I.defers, put_size.trans I.size, by simpa using I.len, fun t ht => ?_, fun j p d hp hl hd => ?_, by rw [hset]; exact hJ⟩ hcnt
      · rw [put_other, I.else_ t ht]
        intro e
        exact ht (List.mem_filterMap.2 ⟨o, by rw [Array.mem_toList_iff]; exact Array.mem_of_getElem? ho, e⟩)
      · have hds : d < b.tmps.size := by
          rw [I.size]
          have := List.all_eq_true.1 (Bool.and_eq_true_iff.1 hD).1 d (List.mem_filterMap.2 ⟨p, by rw [Array.mem_toList_iff]; exact Array.mem_of_getElem? hp, hd⟩)
          simpa using this
        by_cases hij : i = j
        · subst hij
          rw [ho] at hp; cases hp
          rw [hd, put_same hds]; exact hv
        · have hl' : listed.getD j false = true := by
            rw [Array.getD_eq_getD_getElem?, Array.getElem?_setIfInBounds, if_neg hij] at hl
            rw [Array.getD_eq_getD_getElem?]; exact hl
          have hpj := (Array.getElem?_eq_some_iff.1 hp).1
          have hne : o.dst ≠ some d := by
            intro e
            have h2 := List.all_eq_true.1 (List.all_eq_true.1 (Bool.and_eq_true_iff.1 hD).2 i (List.mem_range.2 hj)) j (List.mem_range.2 hpj)
            simp [hij, ho, hp, e, hd] at h2
          rw [put_other hne]
          exact hS _ _ (I.fact j p d hp hl' hd)
    unfold wpOp
    rcases hstep i o ho b w _ hat with ⟨hw, hwp⟩ | ⟨hw, hv, hJ⟩
    · simp only [ho, hw, if_true]
      left
      refine Oper.wp_mono ?_ hwp
      rintro b' w' ⟨v, rfl, hv, hx, hJ⟩
      exact go v w' hv (.inl hx) hJ
    · simp only [ho, hw]
      exact go undef w hv (.inr rfl) hJ

/-- An operation that turns no object, and does not fill the slot. -/
theorem good5_of {i : Nat} {o : Oper} {b : Act} {w : World} {Lf : Nat → Bool} (hGe : ∀ x y, Ext x y → G x y) (hJe : ∀ L u x y, J L u x → Ext x y → J L u y) (hJk : ∀ L L' u x, (∀ k, k ∈ K → L k = L' k) → J L u x → J L' u x)
    (hi : i ∉ K) (hd : o.dst ≠ some d0) (hJ : J Lf (b.tmps.getD d0 undef) w) (h : RGood P ops Φ Q i o b w) : RGood5 P ops Φ G d0 J Q i o Lf b w := by
  have key : ∀ x v, J Lf (b.tmps.getD d0 undef) x → J (done Lf i) ((b.put o.dst v).tmps.getD d0 undef) x := fun x v hx => by
    rw [put_other hd]
    exact hJk Lf _ _ x (fun k hk => by unfold done; rw [if_neg (fun e => by subst e; exact hi hk)]) hx
  rcases h with ⟨hw, hwp⟩ | ⟨hw, hv⟩
  · exact .inl ⟨hw, Oper.wp_mono (fun b' w' ⟨v, e, h1, h2⟩ => ⟨v, e, h1, hGe _ _ h2, key _ _ (hJe _ _ _ _ hJ h2)⟩) hwp⟩
  · exact .inr ⟨hw, hv, key _ _ hJ⟩

theorem wpIn_region_objs {l m id : Nat} {w : World} {S : List Nat} (d0 : Nat) (L : List (FactS S)) (J : (Nat → Bool) → Value → World → Prop) (K : List Nat) (hdf : ops.toList.all noDefer = true) (hm : P.follows .mixedOrders = true) (hA : acycB ops = true) (hD : dstsB ops a.tmps.size = true)
    (hJe : ∀ L u x y, J L u x → Ext x y → J L u y) (hJk : ∀ L L' u x, (∀ k, k ∈ K → L k = L' k) → J L u x → J L' u x) (hJ0 : J (fun _ => false) (a.tmps.getD d0 undef) w)
    (hstep : RSteps (fun k o => ∀ b w' Lf, RAt5 ops (factsS L) (Fr S) d0 J a w k Lf b w' → (k ∉ K ∧ o.dst ≠ some d0 ∧ RGood P ops (factsS L) (onlyN Q) k o b w') ∨ RGood5 P ops (factsS L) (Fr S) d0 J (onlyN Q) k o Lf b w') 0 ops.toList)
    (hend : ∀ b w', Fr S w w' → b.defers = a.defers → b.tmps.size = a.tmps.size → (∀ t, t ∉ dstsOf ops → b.tmps.getD t undef = a.tmps.getD t undef) →
      (∀ j o d, ops[j]? = some o → o.dst = some d → factsS L j (b.tmps.getD d undef) w') → (∀ Lf, (∀ j, j < ops.size → Lf j = true) → (∀ j, ops.size ≤ j → Lf j = false) → J Lf (b.tmps.getD d0 undef) w') → Q .normal b w') : (Code.region id ops true).wpIn (Fence.wide.inRound l) m P Q a w := by
  have hd : ∀ (i : Nat) (o : Oper), ops[i]? = some o → noDefer o = true := fun i o ho => List.all_eq_true.1 hdf o (List.mem_of_getElem? (by rw [Array.getElem?_toList]; exact ho))
  refine wpIn_region_any hm (anyIn_of_any hd _ _ _ _ ?_)
  refine wpAny_facts5 (W := w) (G := Fr S) (d0 := d0) (J := J) (Φ := factsS L) (Q := onlyN Q) hA hD (fun _ _ _ h k => h.trans k) (fun i v w w' h hx => FactS.stays _ v w w' h hx) (fun i o ho b w' Lf h => ?_) (fun b w' h1 h2 h3 h4 h5 h6 => hend b w' h1 h2 h3 h4 h5 h6) _ _ _ _ ⟨(Fr.refl S w).drew, rfl, rfl, by simp, fun _ _ => rfl, fun j o d ho hl _ => ?_, ?_⟩ (by rw [Array.toList_replicate, cntF_rep]; exact Nat.le_refl _)
  · have := RSteps.get 0 ops.toList hstep i o (by simpa using ho) b w' Lf
    rw [Nat.zero_add] at this
    rcases this h with ⟨h1, hd0, h2⟩ | h2
    · exact good5_of (K := K) (fun _ _ h => Fr.of_ext h) hJe hJk h1 hd0 h.obj h2
    · exact h2
  · rw [Array.getD_eq_getD_getElem?] at hl
    by_cases hj : j < ops.size <;> simp [hj] at hl
  · have e : (fun j => (Array.replicate ops.size false).getD j false) = fun _ => false := by
      funext j; rw [Array.getD_eq_getD_getElem?]
      by_cases hj : j < ops.size <;> simp [hj]
    rw [e]
    exact hJe _ _ _ _ hJ0 (Ext.refl w).drew
end
end Go.Proofs.YtljkneajdndgjaaGreat
set_option linter.unusedVariables false
set_option linter.unusedSimpArgs false
namespace Go.Proofs.YtljkneajdndgjaaGreat
open Go.RowKit
/-- What is ranged over, where a round tells besides which blocks it leaves alone. -/
def SeqsG {β : Type} (P : Program) (n₀ : Nat) (X : List Nat) (g : Nat) (lb : Array Value) (H : β → Array Value → World → Prop) (xs : List β) (w : World) : Prop :=
  ∀ (l : Nat) (J Jx : List β → World → Prop) (Fb : Nat → World → Prop) (W : World), Ext w W → (∀ k, Stab W.heap.size (J k)) → (∀ k, Stab W.heap.size (Jx k)) → (∀ b, Stab W.heap.size (Fb b)) →
    (∀ k x vs W1, (∃ L', xs.Perm (k ++ x :: L')) → J k W1 → H x vs W1 → YieldAt Fence.wide 0 P l vs W1 fun e W' =>
      (e = .returned (.bool true) ∧ J (k ++ [x]) W' ∧ BelX n₀ X W1 W' ∧ KeepsFrom W.heap.size W1 W' ∧ ∀ b T us, Fb b W1 → Ob W1 b T us → Fb b W' ∧ Ob W' b T us) ∨ (e = .returned (.bool false) ∧ Jx (k ++ [x]) W' ∧ KeepsFrom W.heap.size W1 W')) →
    J [] W → Calls P g (#[.func (.yield l) #[] #[]] ++ lb) W fun e W' => (∃ v, e = .returned v) ∧ ((∃ k, k.Perm xs ∧ J k W') ∨ ∃ k, Jx k W')
/-- How the body of a round may be left. -/
def rfPostG {β : Type} (B n₀ : Nat) (X : List Nat) (Fb : Nat → World → Prop) (I : List β → World → Prop) (Ix : Code → List β → World → Prop) (k : List β) (W : World) : Exit → Act → World → Prop
  | .normal, _, W' => KeepsFrom B W W' ∧ BelX n₀ X W W' ∧ I k W' ∧ ∀ b T us, Fb b W → Ob W b T us → Fb b W' ∧ Ob W' b T us
  | .ret, _, W' => KeepsFrom B W W' ∧ Ix .ret k W'
  | .exit id, _, W' => KeepsFrom B W W' ∧ Ix (.exit id) k W'
  | .goto t, _, W' => KeepsFrom B W W' ∧ Ix (.goto t) k W'
  | .panic _, _, _ => False
  | .outgrown, _, _ => False
section
variable {β : Type} {P : Program} {g : Operand} {ps : Array Tmp} {assign body : Code} {Q : Exit → Act → World → Prop} {a : Act} {w w0 : World} {gf n₀ : Nat} {X : List Nat} {lb : Array Value} {H : β → Array Value → World → Prop} {xs : List β}
/-- The statement 'for .. := range g { .. }'. -/
theorem wp_rangeG (hg : a.eval g = .func (.func gf) #[] lb) (eg : ∀ args w, (callFunc gf args).run P w = .ok (.enter gf args) w)
    (hseq : SeqsG P n₀ X gf lb H xs w0) (hb0 : Ext w0 w) (hn : n₀ ≤ w.heap.size) (hps : ∀ x vs W, H x vs W → vs.size = ps.size) (hH : ∀ x vs, Stab w.heap.size (H x vs))
    (Fb : Nat → World → Prop) (hFb : ∀ b, Stab w.heap.size (Fb b)) (I : List β → World → Prop) (Ix : Code → List β → World → Prop) (hI : ∀ k, Stab w.heap.size (I k)) (hIx : ∀ c k, Stab w.heap.size (Ix c k)) (h0 : I [] w)
    (Ax : List β → β → Array Value → Act → World → Prop) (hAx : ∀ k x vs a', Stab w.heap.size (Ax k x vs a'))
    (hassign : ∀ (l : Nat) (k : List β) (x : β) (vs : Array Value) (W : World) (K : Act → World → Prop), I k W → H x vs W → (∀ a' W', Ext W W' → Ax k x vs a' W' → K a' W') →
      assign.wpIn (Fence.wide.inRound l) 0 P (Exit.then K fun _ _ _ => False) { tmps := (ps.zip vs).foldl (fun t (p, v) => t.setIfInBounds p v) a.tmps, defers := [] } W)
    (hbody : ∀ (l : Nat) (k : List β) (x : β) (vs : Array Value) (a' : Act) (W : World), (∃ L', xs.Perm (k ++ x :: L')) → I k W → H x vs W → Ax k x vs a' W →
      body.wpIn (Fence.wide.inRound l) 0 P (rfPostG w.heap.size n₀ X Fb I Ix (k ++ [x]) W) a' W)
    (hdone : ∀ (D : Nat) (k : List β) (W : World), w.heap.size ≤ D → k.Perm xs → I k W → W.heap[D]? = some (.deferred (some [])) → Q .normal { a with defers := { target := .collected D, args := #[] } :: a.defers } W)
    (hstop : ∀ (D : Nat) (c : Code) (k : List β) (W : World), w.heap.size ≤ D → Ix c k W → W.heap[D]? = some (.deferred (some [])) → c.wp P Q { a with defers := { target := .collected D, args := #[] } :: a.defers } W) :
    (Code.rangeFunc g ps assign body).wp P Q a w := by
  refine (wpIn_wide (n := 0)).1 (wpIn_rangeFunc fun fn _ => ?_)
  obtain ⟨B, hBe⟩ : ∃ B, B = w.heap.size := ⟨_, rfl⟩
  rw [← hBe] at hn hH hI hIx hAx hFb hbody hdone hstop
  -- the loop's record
  let rc : LoopState → Option Code → Loop := fun st pe => { state := st, pending := pe, fn, tmps := a.tmps, params := ps, assign, body, defers := B }
  have hW1 : ∃ W1, W1 = (w.alloc (.deferred (some []))).alloc (.loop (rc .ready none)) := ⟨_, rfl⟩
  obtain ⟨W1, hW1⟩ := hW1
  have hXW : Ext w W1 := by rw [hW1]; exact ((Ext.refl w).alloc _).alloc _
  have hlp : W1.heap[B + 1]? = some (.loop (rc .ready none)) := by
    have := World.alloc_heap_new (w.alloc (.deferred (some []))) (.loop (rc .ready none))
    rw [World.size_alloc, ← hBe, ← hW1] at this; exact this
  have hdf : W1.heap[B]? = some (.deferred (some [])) := by
    have h1 := World.alloc_heap_new w (.deferred (some []))
    rw [← hBe] at h1
    rw [hW1]
    exact (Below.heap_alloc _ _ _ (lt_of_block h1)).trans h1
  refine ⟨B + 1, [{ target := .collected B, args := #[] }], W1, { target := .fn (.func gf) lb, args := #[.func (.yield (B + 1)) #[] #[]] }, W1, gf, #[.func (.yield (B + 1)) #[] #[]] ++ lb, W1, ?_, ?_, fun _ _ => trivial, ?_, fun h => by simp [Fence.wide] at h, callsIn_wide.2 ?_⟩
  · have h1 := run_enterLoop_outer (P := P) (w := w) fn a.tmps ps assign body
    rw [← hBe] at h1
    rw [hW1]
    exact h1
  · simp only [resolve, hg]
    simp [go_sem]
  · simp [invoke, go_sem, eg]
  have keep : ∀ {A C : World} {k : Nat} {o : Obj}, A.heap[k]? = some o → Ext A C → C.heap[k]? = some o := fun h e => (e.block _ (lt_of_block h)).trans h
  have hWs : W1.heap.size = B + 2 := by rw [hW1]; simp; omega
  have blk : ∀ {A : World} {l k : Nat} {o o' p : Obj}, W1.heap.size ≤ l → A.heap[k]? = some p → k < B + 2 → (A.putObj l o').heap[k]? = some p := fun hl hk hlt => (World.putObj_heap_other (by omega)).trans hk
  refine (hseq (B + 1) (fun k W => I k W ∧ W.heap[B + 1]? = some (.loop (rc .ready none)) ∧ W.heap[B]? = some (.deferred (some [])))
    (fun k W => ∃ c, Ix c k W ∧ W.heap[B + 1]? = some (.loop (rc .done (some c))) ∧ W.heap[B]? = some (.deferred (some []))) Fb W1 (hb0.trans hXW)
    (fun k => ⟨fun A C h e => ⟨(hI k).ext A C h.1 e, keep h.2.1 e, keep h.2.2 e⟩, fun A l o o' h hl ho hc => ⟨(hI k).put A l o o' h.1 (by omega) ho hc, blk (o := o) hl h.2.1 (by omega), blk (o := o) hl h.2.2 (by omega)⟩⟩)
    (fun k => ⟨fun A C ⟨c, h1, h2, h3⟩ e => ⟨c, (hIx c k).ext A C h1 e, keep h2 e, keep h3 e⟩, fun A l o o' ⟨c, h1, h2, h3⟩ hl ho hc => ⟨c, (hIx c k).put A l o o' h1 (by omega) ho hc, blk (o := o) hl h2 (by omega), blk (o := o) hl h3 (by omega)⟩⟩)
    (fun b => (hFb b).mono (by omega)) ?_ ⟨(hI []).ext _ _ h0 hXW, hlp, hdf⟩).mono ?_
  · -- a round
    rintro k x vs W hx ⟨hi, hl, hd⟩ hh
    refine ⟨fn, _, assign, body, run_yield hl (hps x vs W hh), roundIn_of_wpIn trivial (hassign _ k x vs W _ hi hh fun a' Wa hXa hax => ?_)⟩
    have hl1 := keep hl hXa
    have hd1 := keep hd hXa
    have hlt := lt_of_block hl1
    refine ⟨_, run_beginRound hl1 rfl, ?_⟩
    obtain ⟨Wb, hWb⟩ : ∃ Wb, Wb = Wa.putObj (B + 1) (.loop { rc .ready none with state := .busy }) := ⟨_, rfl⟩
    have hl2 : Wb.heap[B + 1]? = some (.loop { rc .ready none with state := .busy }) := by rw [hWb]; exact World.putObj_heap_same hlt
    have hd2 : Wb.heap[B]? = some (.deferred (some [])) := by rw [hWb]; exact (World.putObj_heap_other (by omega)).trans hd1
    have lift : ∀ {p : World → Prop}, Stab B p → p Wa → p Wb := fun hp h => by rw [hWb]; exact hp.put _ _ _ _ h (by omega) hl1 rfl
    have hBw : BelX n₀ X W Wb := by
      have h1 : BelX n₀ X W Wa := belX_fr (S := []) (Fr.of_ext hXa) (by have := lt_of_block hl; omega) (by simp)
      rw [hWb]
      exact h1.trans (BelX.of (belowK_b (w := w) (by omega) _ _ _ _ (by omega) hl1 rfl rfl))
    have hKw : KeepsFrom W1.heap.size W Wb := by
      rw [hWb]
      exact keepsF_trans (keeps_ext hXa) (keepsF_put (by omega) _)
    have hFw : ∀ b T vs, Fb b W → Ob W b T vs → Fb b Wb ∧ Ob Wb b T vs := fun b T vs hf ho => by
      rw [hWb]
      exact ⟨(hFb b).put _ _ _ _ ((hFb b).ext _ _ hf hXa) (by omega) hl1 rfl, ob_putF hl1 rfl (ho.ext hXa)⟩
    rw [← hWb]
    refine wpIn_mono (hbody _ k x vs a' Wb hx (lift (hI k) ((hI k).ext _ _ hi hXa)) (lift (hH x vs) ((hH x vs).ext _ _ hh hXa)) (lift (hAx k x vs a') hax)) ?_
    have fin : ∀ (jump : Option Code) (W3 : World), KeepsFrom B Wb W3 → ∃ W4, (Instr.endRound (B + 1) jump).run P W3 = .ok (.bool jump.isNone) W4 ∧
        (∀ p : World → Prop, Stab B p → p W3 → p W4) ∧ W4.heap[B + 1]? = some (.loop (rc (if jump.isNone then .ready else .done) jump)) ∧ W4.heap[B]? = some (.deferred (some [])) ∧ BelX n₀ X W3 W4 ∧ KeepsFrom W1.heap.size W3 W4 ∧ (∀ b T vs, Fb b W3 → Ob W3 b T vs → Fb b W4 ∧ Ob W4 b T vs) := by
      intro jump W3 hk
      have hl3 := hk.same _ _ (by omega) hl2 rfl
      have hd3 := hk.same _ _ (Nat.le_refl _) hd2 rfl
      exact ⟨_, run_endRound jump hl3, fun p hp h => hp.put _ _ _ _ h (by omega) hl3 rfl, World.putObj_heap_same (lt_of_block hl3), (World.putObj_heap_other (by omega)).trans hd3, BelX.of (belowK_b (w := w) (by omega) _ _ _ _ (by omega) hl3 rfl rfl), keepsF_put (by omega) _, fun b T vs hf ho => ⟨(hFb b).put _ _ _ _ hf (by omega) hl3 rfl, ob_putF hl3 rfl ho⟩⟩
    rintro e a3 W3 hp
    cases e with
    | normal =>
      obtain ⟨hk3, hb3, hi3, hf3⟩ := hp
      obtain ⟨W4, hr, hs, h4, h5, h6, h7, h8⟩ := fin none W3 hk3
      exact ⟨_, W4, hr, .inl ⟨rfl, ⟨hs _ (hI _) hi3, h4, h5⟩, (hBw.trans hb3).trans h6, keepsF_trans (keepsF_trans hKw (keepsF_mono hk3 (by omega))) h7, fun b T vs hf ho => by
        obtain ⟨f1, o1⟩ := hFw b T vs hf ho
        obtain ⟨f2, o2⟩ := hf3 b T vs f1 o1
        exact h8 b T vs f2 o2⟩⟩
    | ret =>
      obtain ⟨hk3, hi3⟩ := hp
      obtain ⟨W4, hr, hs, h4, h5, -, h7, -⟩ := fin (some .ret) W3 hk3
      exact ⟨_, W4, hr, .inr ⟨rfl, ⟨.ret, hs _ (hIx _ _) hi3, h4, h5⟩, keepsF_trans (keepsF_trans hKw (keepsF_mono hk3 (by omega))) h7⟩⟩
    | exit id =>
      obtain ⟨hk3, hi3⟩ := hp
      obtain ⟨W4, hr, hs, h4, h5, -, h7, -⟩ := fin (some (.exit id)) W3 hk3
      exact ⟨_, W4, hr, .inr ⟨rfl, ⟨.exit id, hs _ (hIx _ _) hi3, h4, h5⟩, keepsF_trans (keepsF_trans hKw (keepsF_mono hk3 (by omega))) h7⟩⟩
    | goto t =>
      obtain ⟨hk3, hi3⟩ := hp
      obtain ⟨W4, hr, hs, h4, h5, -, h7, -⟩ := fin (some (.goto t)) W3 hk3
      exact ⟨_, W4, hr, .inr ⟨rfl, ⟨.goto t, hs _ (hIx _ _) hi3, h4, h5⟩, keepsF_trans (keepsF_trans hKw (keepsF_mono hk3 (by omega))) h7⟩⟩
    | panic ch => exact hp.elim
    | outgrown => exact hp.elim
  · -- behind it
    rintro e W2 ⟨⟨v, rfl⟩, ⟨k, hkp, hi, hl, hd⟩ | ⟨k, c, hi, hl, hd⟩⟩
    · exact ⟨none, _, run_endLoop hl (by intro h; cases h), hdone B k _ (Nat.le_refl _) hkp ((hI _).put _ _ _ _ hi (by omega) hl rfl) ((World.putObj_heap_other (by omega)).trans hd)⟩
    · exact ⟨some c, _, run_endLoop hl (by intro h; cases h), wpIn_wide.2 (hstop B c k _ (Nat.le_refl _) ((hIx c k).put _ _ _ _ hi (by omega) hl rfl) ((World.putObj_heap_other (by omega)).trans hd))⟩
end

end Go.Proofs.YtljkneajdndgjaaGreat
