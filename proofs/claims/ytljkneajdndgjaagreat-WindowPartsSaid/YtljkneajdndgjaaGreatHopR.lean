/-
  A helper of ours: no claim of its own. A range over a function, where a round leaves alone what lies below but for some blocks, and later blocks but those of copies; the rows that are told, each with its function, so.
-/
import Derived.Test.YtljkneajdndgjaaGreatEdgGr
import Derived.Test.YtljkneajdndgjaaGreatEdgFx
import Derived.Test.YtljkneajdndgjaaGreatRx
import Derived.Test.YtljkneajdndgjaaGreatEdgO
import Derived.Test.YtljkneajdndgjaaGreatHopA
set_option linter.unusedVariables false
set_option linter.unusedSimpArgs false
namespace Go.Proofs.YtljkneajdndgjaaGreat
open Go.RowKit
attribute [local go_sem] GW.cell GW.frozen In.eq_true In.le_true In.ne In.ne' In.ne_add In.ne_add' In.lt_add Upto.le_true Upto.le_add Upto.lt_add Oper.semAt_some wide_depth wide_fn
/-- What a round's yield leaves: told in one way. -/
def RoundBX (X : List Nat) (n₀ B : Nat) (J Jx Fb : Nat → World → Prop) (k : Nat) (W1 : World) (bv : Bool) (W' : World) : Prop :=
  (bv = true → J (k + 1) W' ∧ BelX n₀ X W1 W' ∧ KeepsFrom B W1 W' ∧ ∀ b T us, Fb b W1 → Ob W1 b T us → Fb b W' ∧ Ob W' b T us) ∧ (bv = false → Jx (k + 1) W' ∧ KeepsFrom B W1 W')
set_option maxHeartbeats 8000000 in
set_option maxRecDepth 100000 in
theorem groups_seqx (X : List Nat) (L : List Ve) (v : Value) (w0 w : World) (b : Nat) (hC : Ew w0 X v L) (hz : L.length ≤ 1000000000) (hG : ∀ g ∈ grp (eds L), g.1.length ≤ 1000000) (hX : Ext w0 w) (hb : Ob w b 25 [v]) :
    SeqsX2 Tryz.prog w0.heap.size X 146 #[.pointer (some ⟨b, 0, none⟩)] Hgg (grp (eds L)) w := by
  intro l J Jx Fb W hW hJ hJx hFb hFn hY h0
  obtain ⟨A, cap, rfl, -, -, -⟩ := ew_form hC
  have q0 := (hb.ext hW).cell 0 rfl
  have hlb := (hb.ext hW).lt
  have hz0 := hX.size
  have hz1 := hW.size
  have hW2 := hide (hX.trans hW)
  have a2 : Ob (W.alloc (.cells #[.func (.yield l) #[] #[]] 162)) W.heap.size 162 [.func (.yield l) #[] #[]] := Ob.new W _ [.func (.yield l) #[] #[]]
  have f2 := hFn 0 W (.cells #[.func (.yield l) #[] #[]] 162) h0
  have j2 := (hJ 0).ext _ _ h0 ((Ext.refl W).alloc (.cells #[.func (.yield l) #[] #[]] 162))
  have hJ' := hide hJ
  have hJx' := hide hJx
  have hFb' := hide hFb
  have hY' := hide hY
  replace hC := hide hC
  replace hG := hide hG
  haveI : In b W := ⟨hlb⟩
  clear hJ hJx hFb hFn hY hb hX hW h0
  refine calls_marks Tryz.func146 rfl ?_
  simp only [Tryz.ntmps146, List.size_toArray, List.length_cons, List.length_nil, Nat.reduceAdd, Nat.reduceSub, Array.replicate_succ, Array.replicate_zero, List.push_toArray, List.append_toArray, List.nil_append, List.cons_append]
  go_wp2_with (go_at_call 98; refine (functions_c _ _ _ _).mono ?_; rintro ee w1 ⟨b2, rfl, hb2, hle, hX1⟩)
  have hX2 := hide (((Ext.refl W).alloc (.cells #[.func (.yield l) #[] #[]] 162)).trans hX1)
  have p2 := a2.ext hX1
  have hz2 := hX2.out.size
  have f3 := (hFb'.out W.heap.size).ext _ _ f2 hX1
  have j3 := (hJ'.out 0).ext _ _ j2 hX1
  clear a2 f2 j2 hle hX1
  obtain ⟨bb, hbb⟩ : ∃ bb, W.heap.size = bb := ⟨_, rfl⟩
  rw [hbb] at p2 f3
  refine wp_rangeX (xs := grp (eds L)) rfl (enters_of Tryz.func141 (by kernel_rfl) rfl) (functions_seqx X L _ w0 w1 b2 hC.out hz (hW2.out.trans hX2.out) hb2) (Ext.refl _) (by omega) (fun x vs W h => h.size) (fun x vs => Hgo.stab x vs)
    (fun k Wx => J k Wx ∧ (Fb bb Wx ∧ Ob Wx bb 162 [.func (.yield l) #[] #[]]))
    (fun c k Wx => c = .ret ∧ Jx k Wx)
    (fun k => ((hJ'.out k).mono hz2).and (((hFb'.out bb).mono hz2).and (Stab.ob _ _ _)))
    (fun c k => (Stab.pure _).and ((hJx'.out k).mono hz2))
    ⟨j3, f3, p2⟩
    (fun k x vs a' _ => ∃ r f, vs = #[r, f] ∧ a' = { tmps := #[.func (.yield l) #[] #[], .pointer (some ⟨b, 0, none⟩), .pointer (some ⟨bb, 0, none⟩), r, f, .slice A L.length cap, .func (.func 141) #[] #[.pointer (some ⟨b2, 0, none⟩)], r, f, undef, undef, undef, undef, undef, undef], defers := [] })
    (fun k x vs a' => Stab.pure _) ?assign ?body ?done ?stop
  case assign =>
    rintro LL k x vs W K _ ⟨r, f, rfl, -, -⟩ hK
    gi_wp2
    exact hK _ _ (Ext.refl _) ⟨r, f, rfl, by rw [← hbb]⟩
  case body =>
    rintro LL k x vs a' W1 hx ⟨hJk, hFk, o2⟩ ⟨r', f', e', hr, hf⟩ ⟨r, f, rfl, rfl⟩
    obtain ⟨rfl, rfl⟩ : r = r' ∧ f = f' := by simpa using e'
    obtain ⟨q, Jq⟩ := x
    have k2 := o2.cell 0 rfl
    have hlt2 := o2.lt
    have hq8 := hG.out (q, Jq) (List.mem_of_getElem? hx)
    simp only at hq8
    have hmx : Tryz.prog.follows .mixedOrders = true := by kernel_rfl
    have hXd : Ext W1 W1.drew := (Ext.refl W1).drew
    have hcp := hide (rowCopy_c q r W1.drew (Sl.ext hr hXd) (by omega))
    have hone := hide (fun (w2 : World) (v2 : Value) (hX : Ext W1 w2) (h2 : OwnR w2 0 v2 q) => by
      obtain ⟨fn, tm, asg, bdy, hy, hR⟩ := yield_in (l := LL) (hY'.out k (q, Jq) #[v2, f] w2 hx ((hJ'.out k).ext _ _ hJk hX) ⟨v2, f, rfl, h2, own_ext hf hX⟩)
      have hR1 : RoundIn (Fence.wide.inRound LL) 0 Tryz.prog l fn tm asg bdy w2 fun e W' => ∃ bv, e = .returned (.bool bv) ∧ RoundBX X w0.heap.size W.heap.size J Jx Fb k w2 bv W' := hR.mono fun e W' h => by
        rcases h with ⟨rfl, h⟩ | ⟨rfl, h⟩
        · exact ⟨true, rfl, fun _ => h, fun e => by cases e⟩
        · exact ⟨false, rfl, (fun e => by cases e), fun _ => h⟩
      exact (⟨fn, tm, asg, bdy, hy, hR1⟩ : ∃ fn tm asg bdy, (Instr.yield l #[v2, f]).run Tryz.prog w2 = .ok (.round l fn tm asg bdy) w2 ∧ RoundIn (Fence.wide.inRound LL) 0 Tryz.prog l fn tm asg bdy w2 fun e W' => ∃ bv, e = .returned (.bool bv) ∧ RoundBX X w0.heap.size W.heap.size J Jx Fb k w2 bv W'))
    obtain ⟨RA, rcap, rfl⟩ := rw_val hr
    obtain ⟨JA, jcap, rfl⟩ := own_form hf
    haveI : In bb W1 := ⟨hlt2⟩
    have hz1b : W.heap.size ≤ w1.heap.size := hz2
    have hzn : w0.heap.size ≤ W1.heap.size := by have := o2.lt; omega
    have hJk' := hide hJk
    have hFk' := hide hFk
    have o2' := hide o2
    clear hr hf hx hJk hFk o2
    gi_wp2
    gi_region_with_o (first | (gi_at_call 112; refine (in_round hcp.out).mono ?_; rintro ee w2 ⟨v2, rfl, ho2, hx2⟩; have hXw := hXd.trans hx2; have k3 := (o2'.out.ext hXw).cell 0 rfl; obtain ⟨C2, c2, q2⟩ := own_form ho2; subst q2; obtain ⟨fn, tm, asg, bdy, hy, hR⟩ := hone.out w2 _ hXw (own_base ho2 (Nat.zero_le _)); replace hR := hide hR) | ((with_reducible refine RoundIn.mono hR.out ?_); rintro ee W3 ⟨bv, rfl, hP⟩))
    all_goals
      cases bv
      · obtain ⟨hj, hk3⟩ := hP.2 rfl
        replace hP := hide hP
        gi_wp2
        exact ⟨keepsF_trans (keeps_ext hXw) (keepsF_mono hk3 hz1b), rfl, hj⟩
      · obtain ⟨hj, hb3, hk3, hf3⟩ := hP.1 rfl
        have hfo := hf3 bb _ _ ((hFb'.out bb).ext _ _ hFk'.out hXw) (o2'.out.ext hXw)
        replace hP := hide hP
        gi_wp2
        exact ⟨keepsF_trans (keeps_ext hXw) (keepsF_mono hk3 hz1b), (belX_fr (S := []) (Fr.of_ext hXw) hzn (by simp)).trans hb3, hj, hfo.1, hfo.2⟩
  case done =>
    rintro D Wd hD ⟨hJn, -, -⟩ hK
    go_wp2
    refine ret_mark hK (results_none rfl _ _ _) ⟨⟨_, rfl⟩, .inl ((hJ'.out _).put _ _ _ _ hJn (by omega) hK rfl)⟩
  case stop =>
    rintro D c k Wd hD hk ⟨rfl, hj⟩ hK
    go_wp2
    refine ret_mark hK (results_none rfl _ _ _) ⟨⟨_, rfl⟩, .inr ⟨k, hk, (hJx'.out _).put _ _ _ _ hj (by omega) hK rfl⟩⟩
end Go.Proofs.YtljkneajdndgjaaGreat
set_option linter.unusedVariables false
set_option linter.unusedSimpArgs false
namespace Go.Proofs.YtljkneajdndgjaaGreat
open Go.RowKit
def SeqsQ {β : Type} (P : Program) (n₀ : Nat) (X : List Nat) (g : Nat) (lb : Array Value) (H : β → Array Value → World → Prop) (xs : List β) (w : World) : Prop :=
  ∀ (l : Nat) (J Jx : Nat → World → Prop) (W : World), Ext w W → (∀ k, Stab W.heap.size (J k)) → (∀ k, Stab W.heap.size (Jx k)) →
    (∀ k x vs W1, xs[k]? = some x → J k W1 → H x vs W1 → YieldAt Fence.wide 0 P l vs W1 fun e W' =>
      (e = .returned (.bool true) ∧ J (k + 1) W' ∧ BelX n₀ X W1 W' ∧ KeepsFrom W.heap.size W1 W' ∧ Qk W.heap.size W1 W') ∨ (e = .returned (.bool false) ∧ Jx (k + 1) W' ∧ KeepsFrom W.heap.size W1 W')) →
    J 0 W → Calls P g (#[.func (.yield l) #[] #[]] ++ lb) W fun e W' => (∃ v, e = .returned v) ∧ (J xs.length W' ∨ ∃ k, k ≤ xs.length ∧ Jx k W')
/-- How the body of a round may be left. -/
def rfPostQ (B n₀ : Nat) (X : List Nat) (I : Nat → World → Prop) (Ix : Code → Nat → World → Prop) (k : Nat) (W : World) : Exit → Act → World → Prop
  | .normal, _, W' => KeepsFrom B W W' ∧ BelX n₀ X W W' ∧ I k W' ∧ Qk B W W'
  | .ret, _, W' => KeepsFrom B W W' ∧ Ix .ret k W'
  | .exit id, _, W' => KeepsFrom B W W' ∧ Ix (.exit id) k W'
  | .goto t, _, W' => KeepsFrom B W W' ∧ Ix (.goto t) k W'
  | .panic _, _, _ => False
  | .outgrown, _, _ => False
section
variable {β : Type} {P : Program} {g : Operand} {ps : Array Tmp} {assign body : Code} {Q : Exit → Act → World → Prop} {a : Act} {w w0 : World} {gf n₀ : Nat} {X : List Nat} {lb : Array Value} {H : β → Array Value → World → Prop} {xs : List β}
/-- The statement 'for .. := range g { .. }'. -/
theorem wp_rangeQ (hg : a.eval g = .func (.func gf) #[] lb) (eg : ∀ args w, (callFunc gf args).run P w = .ok (.enter gf args) w)
    (hseq : SeqsQ P n₀ X gf lb H xs w0) (hb0 : Ext w0 w) (hn : n₀ ≤ w.heap.size) (hps : ∀ x vs W, H x vs W → vs.size = ps.size) (hH : ∀ x vs, Stab w.heap.size (H x vs))
    (I : Nat → World → Prop) (Ix : Code → Nat → World → Prop) (hI : ∀ k, Stab w.heap.size (I k)) (hIx : ∀ c k, Stab w.heap.size (Ix c k)) (h0 : I 0 w)
    (Ax : Nat → β → Array Value → Act → World → Prop) (hAx : ∀ k x vs a', Stab w.heap.size (Ax k x vs a'))
    (hassign : ∀ (l k : Nat) (x : β) (vs : Array Value) (W : World) (K : Act → World → Prop), I k W → H x vs W → (∀ a' W', Ext W W' → Ax k x vs a' W' → K a' W') →
      assign.wpIn (Fence.wide.inRound l) 0 P (Exit.then K fun _ _ _ => False) { tmps := (ps.zip vs).foldl (fun t (p, v) => t.setIfInBounds p v) a.tmps, defers := [] } W)
    (hbody : ∀ (l k : Nat) (x : β) (vs : Array Value) (a' : Act) (W : World), w.heap.size ≤ l → (∃ r, W.heap[l]? = some (.loop r)) → xs[k]? = some x → I k W → H x vs W → Ax k x vs a' W →
      body.wpIn (Fence.wide.inRound l) 0 P (rfPostQ w.heap.size n₀ X I Ix (k + 1) W) a' W)
    (hdone : ∀ (D : Nat) (W : World), w.heap.size ≤ D → I xs.length W → W.heap[D]? = some (.deferred (some [])) → Q .normal { a with defers := { target := .collected D, args := #[] } :: a.defers } W)
    (hstop : ∀ (D : Nat) (c : Code) (k : Nat) (W : World), w.heap.size ≤ D → k ≤ xs.length → Ix c k W → W.heap[D]? = some (.deferred (some [])) → c.wp P Q { a with defers := { target := .collected D, args := #[] } :: a.defers } W) :
    (Code.rangeFunc g ps assign body).wp P Q a w := by
  refine (wpIn_wide (n := 0)).1 (wpIn_rangeFunc fun fn _ => ?_)
  obtain ⟨B, hBe⟩ : ∃ B, B = w.heap.size := ⟨_, rfl⟩
  rw [← hBe] at hn hH hI hIx hAx hbody hdone hstop
  -- the loop's record
  let rc : LoopState → Option Code → Loop := fun st pe => { state := st, pending := pe, fn, tmps := a.tmps, params := ps, assign, body, defers := B }
  have hW1 : ∃ W1, W1 = (w.alloc (.deferred (some []))).alloc (.loop (rc .ready none)) := ⟨_, rfl⟩
  obtain ⟨W1, hW1⟩ := hW1
  have hXW : Ext w W1 := by rw [hW1]; exact ((Ext.refl w).alloc _).alloc _
  have hlp : W1.heap[B + 1]? = some (.loop (rc .ready none)) := by
    have := World.alloc_heap_new (w.alloc (.deferred (some []))) (.loop (rc .ready none))
    rw [World.size_alloc, ← hBe, ← hW1] at this; exact this
  have hdf : W1.heap[B]? = some (.deferred (some [])) := by
    have h1 := World.alloc_heap_new w (.deferred (some []))
    rw [← hBe] at h1
    rw [hW1]
    exact (Below.heap_alloc _ _ _ (lt_of_block h1)).trans h1
  refine ⟨B + 1, [{ target := .collected B, args := #[] }], W1, { target := .fn (.func gf) lb, args := #[.func (.yield (B + 1)) #[] #[]] }, W1, gf, #[.func (.yield (B + 1)) #[] #[]] ++ lb, W1, ?_, ?_, fun _ _ => trivial, ?_, fun h => by simp [Fence.wide] at h, callsIn_wide.2 ?_⟩
  · have h1 := run_enterLoop_outer (P := P) (w := w) fn a.tmps ps assign body
    rw [← hBe] at h1
    rw [hW1]
    exact h1
  · simp only [resolve, hg]
    simp [go_sem]
  · simp [invoke, go_sem, eg]
  have keep : ∀ {A C : World} {k : Nat} {o : Obj}, A.heap[k]? = some o → Ext A C → C.heap[k]? = some o := fun h e => (e.block _ (lt_of_block h)).trans h
  have hWs : W1.heap.size = B + 2 := by rw [hW1]; simp; omega
  have blk : ∀ {A : World} {l k : Nat} {o o' p : Obj}, W1.heap.size ≤ l → A.heap[k]? = some p → k < B + 2 → (A.putObj l o').heap[k]? = some p := fun hl hk hlt => (World.putObj_heap_other (by omega)).trans hk
  refine (hseq (B + 1) (fun k W => I k W ∧ W.heap[B + 1]? = some (.loop (rc .ready none)) ∧ W.heap[B]? = some (.deferred (some [])))
    (fun k W => ∃ c, Ix c k W ∧ W.heap[B + 1]? = some (.loop (rc .done (some c))) ∧ W.heap[B]? = some (.deferred (some []))) W1 (hb0.trans hXW)
    (fun k => ⟨fun A C h e => ⟨(hI k).ext A C h.1 e, keep h.2.1 e, keep h.2.2 e⟩, fun A l o o' h hl ho hc => ⟨(hI k).put A l o o' h.1 (by omega) ho hc, blk (o := o) hl h.2.1 (by omega), blk (o := o) hl h.2.2 (by omega)⟩⟩)
    (fun k => ⟨fun A C ⟨c, h1, h2, h3⟩ e => ⟨c, (hIx c k).ext A C h1 e, keep h2 e, keep h3 e⟩, fun A l o o' ⟨c, h1, h2, h3⟩ hl ho hc => ⟨c, (hIx c k).put A l o o' h1 (by omega) ho hc, blk (o := o) hl h2 (by omega), blk (o := o) hl h3 (by omega)⟩⟩)
    ?_ ⟨(hI 0).ext _ _ h0 hXW, hlp, hdf⟩).mono ?_
  · -- a round
    rintro k x vs W hx ⟨hi, hl, hd⟩ hh
    refine ⟨fn, _, assign, body, run_yield hl (hps x vs W hh), roundIn_of_wpIn trivial (hassign _ k x vs W _ hi hh fun a' Wa hXa hax => ?_)⟩
    have hl1 := keep hl hXa
    have hd1 := keep hd hXa
    have hlt := lt_of_block hl1
    refine ⟨_, run_beginRound hl1 rfl, ?_⟩
    obtain ⟨Wb, hWb⟩ : ∃ Wb, Wb = Wa.putObj (B + 1) (.loop { rc .ready none with state := .busy }) := ⟨_, rfl⟩
    have hl2 : Wb.heap[B + 1]? = some (.loop { rc .ready none with state := .busy }) := by rw [hWb]; exact World.putObj_heap_same hlt
    have hd2 : Wb.heap[B]? = some (.deferred (some [])) := by rw [hWb]; exact (World.putObj_heap_other (by omega)).trans hd1
    have lift : ∀ {p : World → Prop}, Stab B p → p Wa → p Wb := fun hp h => by rw [hWb]; exact hp.put _ _ _ _ h (by omega) hl1 rfl
    have hBw : BelX n₀ X W Wb := by
      have h1 : BelX n₀ X W Wa := belX_fr (S := []) (Fr.of_ext hXa) (by have := lt_of_block hl; omega) (by simp)
      rw [hWb]
      exact h1.trans (BelX.of (belowK_b (w := w) (by omega) _ _ _ _ (by omega) hl1 rfl rfl))
    have hKw : KeepsFrom W1.heap.size W Wb := by
      rw [hWb]
      exact keepsF_trans (keeps_ext hXa) (keepsF_put (by omega) _)
    have hFw : Qk B W Wb := by
      rw [hWb]
      exact (Qk.of_ext hXa).trans (Qk.put hl1 rfl)
    rw [← hWb]
    refine wpIn_mono (hbody _ k x vs a' Wb (by omega) ⟨_, hl2⟩ hx (lift (hI k) ((hI k).ext _ _ hi hXa)) (lift (hH x vs) ((hH x vs).ext _ _ hh hXa)) (lift (hAx k x vs a') hax)) ?_
    have fin : ∀ (jump : Option Code) (W3 : World), KeepsFrom B Wb W3 → ∃ W4, (Instr.endRound (B + 1) jump).run P W3 = .ok (.bool jump.isNone) W4 ∧
        (∀ p : World → Prop, Stab B p → p W3 → p W4) ∧ W4.heap[B + 1]? = some (.loop (rc (if jump.isNone then .ready else .done) jump)) ∧ W4.heap[B]? = some (.deferred (some [])) ∧ BelX n₀ X W3 W4 ∧ KeepsFrom W1.heap.size W3 W4 ∧ Qk B W3 W4 := by
      intro jump W3 hk
      have hl3 := hk.same _ _ (by omega) hl2 rfl
      have hd3 := hk.same _ _ (Nat.le_refl _) hd2 rfl
      exact ⟨_, run_endRound jump hl3, fun p hp h => hp.put _ _ _ _ h (by omega) hl3 rfl, World.putObj_heap_same (lt_of_block hl3), (World.putObj_heap_other (by omega)).trans hd3, BelX.of (belowK_b (w := w) (by omega) _ _ _ _ (by omega) hl3 rfl rfl), keepsF_put (by omega) _, Qk.put hl3 rfl⟩
    rintro e a3 W3 hp
    cases e with
    | normal =>
      obtain ⟨hk3, hb3, hi3, hf3⟩ := hp
      obtain ⟨W4, hr, hs, h4, h5, h6, h7, h8⟩ := fin none W3 hk3
      exact ⟨_, W4, hr, .inl ⟨rfl, ⟨hs _ (hI _) hi3, h4, h5⟩, (hBw.trans hb3).trans h6, keepsF_trans (keepsF_trans hKw (keepsF_mono hk3 (by omega))) h7, ((hFw.trans hf3).trans h8).mono (by omega)⟩⟩
    | ret =>
      obtain ⟨hk3, hi3⟩ := hp
      obtain ⟨W4, hr, hs, h4, h5, -, h7, -⟩ := fin (some .ret) W3 hk3
      exact ⟨_, W4, hr, .inr ⟨rfl, ⟨.ret, hs _ (hIx _ _) hi3, h4, h5⟩, keepsF_trans (keepsF_trans hKw (keepsF_mono hk3 (by omega))) h7⟩⟩
    | exit id =>
      obtain ⟨hk3, hi3⟩ := hp
      obtain ⟨W4, hr, hs, h4, h5, -, h7, -⟩ := fin (some (.exit id)) W3 hk3
      exact ⟨_, W4, hr, .inr ⟨rfl, ⟨.exit id, hs _ (hIx _ _) hi3, h4, h5⟩, keepsF_trans (keepsF_trans hKw (keepsF_mono hk3 (by omega))) h7⟩⟩
    | goto t =>
      obtain ⟨hk3, hi3⟩ := hp
      obtain ⟨W4, hr, hs, h4, h5, -, h7, -⟩ := fin (some (.goto t)) W3 hk3
      exact ⟨_, W4, hr, .inr ⟨rfl, ⟨.goto t, hs _ (hIx _ _) hi3, h4, h5⟩, keepsF_trans (keepsF_trans hKw (keepsF_mono hk3 (by omega))) h7⟩⟩
    | panic ch => exact hp.elim
    | outgrown => exact hp.elim
  · -- behind it
    rintro e W2 ⟨⟨v, rfl⟩, ⟨hi, hl, hd⟩ | ⟨k, hk, c, hi, hl, hd⟩⟩
    · exact ⟨none, _, run_endLoop hl (by intro h; cases h), hdone B _ (Nat.le_refl _) ((hI _).put _ _ _ _ hi (by omega) hl rfl) ((World.putObj_heap_other (by omega)).trans hd)⟩
    · exact ⟨some c, _, run_endLoop hl (by intro h; cases h), wpIn_wide.2 (hstop B c k _ (Nat.le_refl _) hk ((hIx c k).put _ _ _ _ hi (by omega) hl rfl) ((World.putObj_heap_other (by omega)).trans hd))⟩
end

attribute [local go_sem] GW.cell GW.frozen In.eq_true In.le_true In.ne In.ne' In.ne_add In.ne_add' In.lt_add Upto.le_true Upto.le_add Upto.lt_add Oper.semAt_some wide_depth wide_fn
/-- What a round's yield leaves: told in one way. -/
def RoundBQ (X : List Nat) (n₀ B : Nat) (J Jx : Nat → World → Prop) (k : Nat) (W1 : World) (bv : Bool) (W' : World) : Prop :=
  (bv = true → J (k + 1) W' ∧ BelX n₀ X W1 W' ∧ KeepsFrom B W1 W' ∧ Qk B W1 W') ∧ (bv = false → Jx (k + 1) W' ∧ KeepsFrom B W1 W')
set_option maxHeartbeats 8000000 in
set_option maxRecDepth 100000 in
theorem groups_seqq (X : List Nat) (L : List Ve) (v : Value) (w0 w : World) (b : Nat) (hC : Ew w0 X v L) (hz : L.length ≤ 1000000000) (hG : ∀ g ∈ grp (eds L), g.1.length ≤ 1000000) (hX : Ext w0 w) (hb : Ob w b 25 [v]) :
    SeqsQ Tryz.prog w0.heap.size X 146 #[.pointer (some ⟨b, 0, none⟩)] Hgg (grp (eds L)) w := by
  intro l J Jx W hW hJ hJx hY h0
  obtain ⟨A, cap, rfl, -, -, -⟩ := ew_form hC
  have q0 := (hb.ext hW).cell 0 rfl
  have hlb := (hb.ext hW).lt
  have hz0 := hX.size
  have hz1 := hW.size
  have hW2 := hide (hX.trans hW)
  have a2 : Ob (W.alloc (.cells #[.func (.yield l) #[] #[]] 162)) W.heap.size 162 [.func (.yield l) #[] #[]] := Ob.new W _ [.func (.yield l) #[] #[]]
  have j2 := (hJ 0).ext _ _ h0 ((Ext.refl W).alloc (.cells #[.func (.yield l) #[] #[]] 162))
  have hJ' := hide hJ
  have hJx' := hide hJx
  have hY' := hide hY
  replace hC := hide hC
  replace hG := hide hG
  haveI : In b W := ⟨hlb⟩
  clear hJ hJx hY hb hX hW h0
  refine calls_marks Tryz.func146 rfl ?_
  simp only [Tryz.ntmps146, List.size_toArray, List.length_cons, List.length_nil, Nat.reduceAdd, Nat.reduceSub, Array.replicate_succ, Array.replicate_zero, List.push_toArray, List.append_toArray, List.nil_append, List.cons_append]
  go_wp2_with (go_at_call 98; refine (functions_c _ _ _ _).mono ?_; rintro ee w1 ⟨b2, rfl, hb2, hle, hX1⟩)
  have hX2 := hide (((Ext.refl W).alloc (.cells #[.func (.yield l) #[] #[]] 162)).trans hX1)
  have p2 := a2.ext hX1
  have hz2 := hX2.out.size
  have j3 := (hJ'.out 0).ext _ _ j2 hX1
  clear a2 j2 hle hX1
  obtain ⟨bb, hbb⟩ : ∃ bb, W.heap.size = bb := ⟨_, rfl⟩
  rw [hbb] at p2
  have hbN : W.heap.size ≤ bb := by omega
  refine wp_rangeX (xs := grp (eds L)) rfl (enters_of Tryz.func141 (by kernel_rfl) rfl) (functions_seqx X L _ w0 w1 b2 hC.out hz (hW2.out.trans hX2.out) hb2) (Ext.refl _) (by omega) (fun x vs W h => h.size) (fun x vs => Hgo.stab x vs)
    (fun k Wx => J k Wx ∧ Ob Wx bb 162 [.func (.yield l) #[] #[]])
    (fun c k Wx => c = .ret ∧ Jx k Wx)
    (fun k => ((hJ'.out k).mono hz2).and (Stab.ob _ _ _))
    (fun c k => (Stab.pure _).and ((hJx'.out k).mono hz2))
    ⟨j3, p2⟩
    (fun k x vs a' _ => ∃ r f, vs = #[r, f] ∧ a' = { tmps := #[.func (.yield l) #[] #[], .pointer (some ⟨b, 0, none⟩), .pointer (some ⟨bb, 0, none⟩), r, f, .slice A L.length cap, .func (.func 141) #[] #[.pointer (some ⟨b2, 0, none⟩)], r, f, undef, undef, undef, undef, undef, undef], defers := [] })
    (fun k x vs a' => Stab.pure _) ?assign ?body ?done ?stop
  case assign =>
    rintro LL k x vs W K _ ⟨r, f, rfl, -, -⟩ hK
    gi_wp2
    exact hK _ _ (Ext.refl _) ⟨r, f, rfl, by rw [← hbb]⟩
  case body =>
    rintro LL k x vs a' W1 hx ⟨hJk, o2⟩ ⟨r', f', e', hr, hf⟩ ⟨r, f, rfl, rfl⟩
    obtain ⟨rfl, rfl⟩ : r = r' ∧ f = f' := by simpa using e'
    obtain ⟨q, Jq⟩ := x
    have k2 := o2.cell 0 rfl
    have hlt2 := o2.lt
    have hq8 := hG.out (q, Jq) (List.mem_of_getElem? hx)
    simp only at hq8
    have hmx : Tryz.prog.follows .mixedOrders = true := by kernel_rfl
    have hXd : Ext W1 W1.drew := (Ext.refl W1).drew
    have hcp := hide (rowCopy_c q r W1.drew (Sl.ext hr hXd) (by omega))
    have hone := hide (fun (w2 : World) (v2 : Value) (hX : Ext W1 w2) (h2 : OwnR w2 0 v2 q) => by
      obtain ⟨fn, tm, asg, bdy, hy, hR⟩ := yield_in (l := LL) (hY'.out k (q, Jq) #[v2, f] w2 hx ((hJ'.out k).ext _ _ hJk hX) ⟨v2, f, rfl, h2, own_ext hf hX⟩)
      have hR1 : RoundIn (Fence.wide.inRound LL) 0 Tryz.prog l fn tm asg bdy w2 fun e W' => ∃ bv, e = .returned (.bool bv) ∧ RoundBQ X w0.heap.size W.heap.size J Jx k w2 bv W' := hR.mono fun e W' h => by
        rcases h with ⟨rfl, h⟩ | ⟨rfl, h⟩
        · exact ⟨true, rfl, fun _ => h, fun e => by cases e⟩
        · exact ⟨false, rfl, (fun e => by cases e), fun _ => h⟩
      exact (⟨fn, tm, asg, bdy, hy, hR1⟩ : ∃ fn tm asg bdy, (Instr.yield l #[v2, f]).run Tryz.prog w2 = .ok (.round l fn tm asg bdy) w2 ∧ RoundIn (Fence.wide.inRound LL) 0 Tryz.prog l fn tm asg bdy w2 fun e W' => ∃ bv, e = .returned (.bool bv) ∧ RoundBQ X w0.heap.size W.heap.size J Jx k w2 bv W'))
    obtain ⟨RA, rcap, rfl⟩ := rw_val hr
    obtain ⟨JA, jcap, rfl⟩ := own_form hf
    haveI : In bb W1 := ⟨hlt2⟩
    have hz1b : W.heap.size ≤ w1.heap.size := hz2
    have hzn : w0.heap.size ≤ W1.heap.size := by have := o2.lt; omega
    have hJk' := hide hJk
    have o2' := hide o2
    clear hr hf hx hJk o2
    gi_wp2
    gi_region_with_o (first | (gi_at_call 112; refine (in_round hcp.out).mono ?_; rintro ee w2 ⟨v2, rfl, ho2, hx2⟩; have hXw := hXd.trans hx2; have k3 := (o2'.out.ext hXw).cell 0 rfl; obtain ⟨C2, c2, q2⟩ := own_form ho2; subst q2; obtain ⟨fn, tm, asg, bdy, hy, hR⟩ := hone.out w2 _ hXw (own_base ho2 (Nat.zero_le _)); replace hR := hide hR) | ((with_reducible refine RoundIn.mono hR.out ?_); rintro ee W3 ⟨bv, rfl, hP⟩))
    all_goals
      cases bv
      · obtain ⟨hj, hk3⟩ := hP.2 rfl
        replace hP := hide hP
        gi_wp2
        exact ⟨keepsF_trans (keeps_ext hXw) (keepsF_mono hk3 hz1b), rfl, hj⟩
      · obtain ⟨hj, hb3, hk3, hf3⟩ := hP.1 rfl
        have hfo := hf3 bb _ _ hbN (by decide) (o2'.out.ext hXw)
        replace hP := hide hP
        gi_wp2
        exact ⟨keepsF_trans (keeps_ext hXw) (keepsF_mono hk3 hz1b), (belX_fr (S := []) (Fr.of_ext hXw) hzn (by simp)).trans hb3, hj, hfo⟩
  case done =>
    rintro D Wd hD ⟨hJn, -⟩ hK
    go_wp2
    refine ret_mark hK (results_none rfl _ _ _) ⟨⟨_, rfl⟩, .inl ((hJ'.out _).put _ _ _ _ hJn (by omega) hK rfl)⟩
  case stop =>
    rintro D c k Wd hD hk ⟨rfl, hj⟩ hK
    go_wp2
    refine ret_mark hK (results_none rfl _ _ _) ⟨⟨_, rfl⟩, .inr ⟨k, hk, (hJx'.out _).put _ _ _ _ hj (by omega) hK rfl⟩⟩
end Go.Proofs.YtljkneajdndgjaaGreat
