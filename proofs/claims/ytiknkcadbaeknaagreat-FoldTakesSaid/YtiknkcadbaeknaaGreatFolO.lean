/-
  A helper of ours: no claim of its own. Layer 13 (fold): lists of one's own whose elements have rows of one's own.
-/
import Derived.Test.YtiknkcadbaeknaaGreatEdgO
import Derived.Test.YtiknkcadbaeknaaGreatEdgFx
import Derived.Test.YtiknkcadbaeknaaGreatRx
import Derived.Test.YtiknkcadbaeknaaGreatRowE
import Derived.Test.YtiknkcadbaeknaaGreatBagH
import Derived.Test.YtiknkcadbaeknaaGreatEdgGs
import Derived.Test.YtiknkcadbaeknaaGreatStepO
import Derived.Test.YtiknkcadbaeknaaGreatFolR
set_option linter.unusedVariables false
set_option linter.unusedSimpArgs false
namespace Go.Proofs.YtiknkcadbaeknaaGreat
open Go.RowKit
attribute [local go_sem] GW.cell GW.frozen In.eq_true In.le_true In.ne In.ne' In.ne_add In.ne_add' In.lt_add Upto.le_true Upto.le_add Upto.lt_add Oper.semAt_some wide_depth wide_fn
/-- What a round's yield leaves: told in one way. -/
def RoundBX (X : List Nat) (n₀ B : Nat) (J Jx Fb : Nat → World → Prop) (k : Nat) (W1 : World) (bv : Bool) (W' : World) : Prop :=
  (bv = true → J (k + 1) W' ∧ BelX n₀ X W1 W' ∧ KeepsFrom B W1 W' ∧ ∀ b T us, Fb b W1 → Ob W1 b T us → Fb b W' ∧ Ob W' b T us) ∧ (bv = false → Jx (k + 1) W' ∧ KeepsFrom B W1 W')
set_option maxHeartbeats 8000000 in
set_option maxRecDepth 100000 in
theorem groups_seqx (X : List Nat) (L : List Ve) (v : Value) (w0 w : World) (b : Nat) (hC : Ew w0 X v L) (hz : L.length ≤ 1000000000) (hG : ∀ g ∈ grp (eds L), g.1.length ≤ 1000000) (hX : Ext w0 w) (hb : Ob w b 83 [v]) :
    SeqsX2 Tryz.prog w0.heap.size X 202 #[.pointer (some ⟨b, 0, none⟩)] Hgg (grp (eds L)) w := by
  intro l J Jx Fb W hW hJ hJx hFb hFn hY h0
  obtain ⟨A, cap, rfl, -, -, -⟩ := ew_form hC
  have q0 := (hb.ext hW).cell 0 rfl
  have hlb := (hb.ext hW).lt
  have hz0 := hX.size
  have hz1 := hW.size
  have hW2 := hide (hX.trans hW)
  have a2 : Ob (W.alloc (.cells #[.func (.yield l) #[] #[]] 249)) W.heap.size 249 [.func (.yield l) #[] #[]] := Ob.new W _ [.func (.yield l) #[] #[]]
  have f2 := hFn 0 W (.cells #[.func (.yield l) #[] #[]] 249) h0
  have j2 := (hJ 0).ext _ _ h0 ((Ext.refl W).alloc (.cells #[.func (.yield l) #[] #[]] 249))
  have hJ' := hide hJ
  have hJx' := hide hJx
  have hFb' := hide hFb
  have hY' := hide hY
  replace hC := hide hC
  replace hG := hide hG
  haveI : In b W := ⟨hlb⟩
  clear hJ hJx hFb hFn hY hb hX hW h0
  refine calls_marks Tryz.func202 rfl ?_
  simp only [Tryz.ntmps202, List.size_toArray, List.length_cons, List.length_nil, Nat.reduceAdd, Nat.reduceSub, Array.replicate_succ, Array.replicate_zero, List.push_toArray, List.append_toArray, List.nil_append, List.cons_append]
  go_wp2_with (go_at_call 143; refine (functions_c _ _ _ _).mono ?_; rintro ee w1 ⟨b2, rfl, hb2, hle, hX1⟩)
  have hX2 := hide (((Ext.refl W).alloc (.cells #[.func (.yield l) #[] #[]] 249)).trans hX1)
  have p2 := a2.ext hX1
  have hz2 := hX2.out.size
  have f3 := (hFb'.out W.heap.size).ext _ _ f2 hX1
  have j3 := (hJ'.out 0).ext _ _ j2 hX1
  clear a2 f2 j2 hle hX1
  obtain ⟨bb, hbb⟩ : ∃ bb, W.heap.size = bb := ⟨_, rfl⟩
  rw [hbb] at p2 f3
  refine wp_rangeX (xs := grp (eds L)) rfl (enters_of Tryz.func200 (by kernel_rfl) rfl) (functions_seqx X L _ w0 w1 b2 hC.out hz (hW2.out.trans hX2.out) hb2) (Ext.refl _) (by omega) (fun x vs W h => h.size) (fun x vs => Hgo.stab x vs)
    (fun k Wx => J k Wx ∧ (Fb bb Wx ∧ Ob Wx bb 249 [.func (.yield l) #[] #[]]))
    (fun c k Wx => c = .ret ∧ Jx k Wx)
    (fun k => ((hJ'.out k).mono hz2).and (((hFb'.out bb).mono hz2).and (Stab.ob _ _ _)))
    (fun c k => (Stab.pure _).and ((hJx'.out k).mono hz2))
    ⟨j3, f3, p2⟩
    (fun k x vs a' _ => ∃ r f, vs = #[r, f] ∧ a' = { tmps := #[.func (.yield l) #[] #[], .pointer (some ⟨b, 0, none⟩), .pointer (some ⟨bb, 0, none⟩), r, f, .slice A L.length cap, .func (.func 200) #[] #[.pointer (some ⟨b2, 0, none⟩)], r, f, undef, undef, undef, undef, undef, undef], defers := [] })
    (fun k x vs a' => Stab.pure _) ?assign ?body ?done ?stop
  case assign =>
    rintro LL k x vs W K _ ⟨r, f, rfl, -, -⟩ hK
    gi_wp2
    exact hK _ _ (Ext.refl _) ⟨r, f, rfl, by rw [← hbb]⟩
  case body =>
    rintro LL k x vs a' W1 hx ⟨hJk, hFk, o2⟩ ⟨r', f', e', hr, hf⟩ ⟨r, f, rfl, rfl⟩
    obtain ⟨rfl, rfl⟩ : r = r' ∧ f = f' := by simpa using e'
    obtain ⟨q, Jq⟩ := x
    have k2 := o2.cell 0 rfl
    have hlt2 := o2.lt
    have hq8 := hG.out (q, Jq) (List.mem_of_getElem? hx)
    simp only at hq8
    have hmx : Tryz.prog.follows .mixedOrders = true := by kernel_rfl
    have hXd : Ext W1 W1.drew := (Ext.refl W1).drew
    have hcp := hide (rowCopy_c q r W1.drew (Sl.ext hr hXd) (by omega))
    have hone := hide (fun (w2 : World) (v2 : Value) (hX : Ext W1 w2) (h2 : OwnR w2 0 v2 q) => by
      obtain ⟨fn, tm, asg, bdy, hy, hR⟩ := yield_in (l := LL) (hY'.out k (q, Jq) #[v2, f] w2 hx ((hJ'.out k).ext _ _ hJk hX) ⟨v2, f, rfl, h2, own_ext hf hX⟩)
      have hR1 : RoundIn (Fence.wide.inRound LL) 0 Tryz.prog l fn tm asg bdy w2 fun e W' => ∃ bv, e = .returned (.bool bv) ∧ RoundBX X w0.heap.size W.heap.size J Jx Fb k w2 bv W' := hR.mono fun e W' h => by
        rcases h with ⟨rfl, h⟩ | ⟨rfl, h⟩
        · exact ⟨true, rfl, fun _ => h, fun e => by cases e⟩
        · exact ⟨false, rfl, (fun e => by cases e), fun _ => h⟩
      exact (⟨fn, tm, asg, bdy, hy, hR1⟩ : ∃ fn tm asg bdy, (Instr.yield l #[v2, f]).run Tryz.prog w2 = .ok (.round l fn tm asg bdy) w2 ∧ RoundIn (Fence.wide.inRound LL) 0 Tryz.prog l fn tm asg bdy w2 fun e W' => ∃ bv, e = .returned (.bool bv) ∧ RoundBX X w0.heap.size W.heap.size J Jx Fb k w2 bv W'))
    obtain ⟨RA, rcap, rfl⟩ := rw_val hr
    obtain ⟨JA, jcap, rfl⟩ := own_form hf
    haveI : In bb W1 := ⟨hlt2⟩
    have hz1b : W.heap.size ≤ w1.heap.size := hz2
    have hzn : w0.heap.size ≤ W1.heap.size := by have := o2.lt; omega
    have hJk' := hide hJk
    have hFk' := hide hFk
    have o2' := hide o2
    clear hr hf hx hJk hFk o2
    gi_wp2
    gi_region_with_o (first | (gi_at_call 54; refine (in_round hcp.out).mono ?_; rintro ee w2 ⟨v2, rfl, ho2, hx2⟩; have hXw := hXd.trans hx2; have k3 := (o2'.out.ext hXw).cell 0 rfl; obtain ⟨C2, c2, q2⟩ := own_form ho2; subst q2; obtain ⟨fn, tm, asg, bdy, hy, hR⟩ := hone.out w2 _ hXw (own_base ho2 (Nat.zero_le _)); replace hR := hide hR) | ((with_reducible refine RoundIn.mono hR.out ?_); rintro ee W3 ⟨bv, rfl, hP⟩))
    all_goals
      cases bv
      · obtain ⟨hj, hk3⟩ := hP.2 rfl
        replace hP := hide hP
        gi_wp2
        exact ⟨keepsF_trans (keeps_ext hXw) (keepsF_mono hk3 hz1b), rfl, hj⟩
      · obtain ⟨hj, hb3, hk3, hf3⟩ := hP.1 rfl
        have hfo := hf3 bb _ _ ((hFb'.out bb).ext _ _ hFk'.out hXw) (o2'.out.ext hXw)
        replace hP := hide hP
        gi_wp2
        exact ⟨keepsF_trans (keeps_ext hXw) (keepsF_mono hk3 hz1b), (belX_fr (S := []) (Fr.of_ext hXw) hzn (by simp)).trans hb3, hj, hfo.1, hfo.2⟩
  case done =>
    rintro D Wd hD ⟨hJn, -, -⟩ hK
    go_wp2
    refine ret_mark hK (results_none rfl _ _ _) ⟨⟨_, rfl⟩, .inl ((hJ'.out _).put _ _ _ _ hJn (by omega) hK rfl)⟩
  case stop =>
    rintro D c k Wd hD hk ⟨rfl, hj⟩ hK
    go_wp2
    refine ret_mark hK (results_none rfl _ _ _) ⟨⟨_, rfl⟩, .inr ⟨k, hk, (hJx'.out _).put _ _ _ _ hj (by omega) hK rfl⟩⟩
end Go.Proofs.YtiknkcadbaeknaaGreat
set_option linter.unusedVariables false
set_option linter.unusedSimpArgs false
namespace Go.Proofs.YtiknkcadbaeknaaGreat
open Go.RowKit
attribute [local go_sem] GW.cell GW.frozen In.eq_true In.le_true In.ne In.ne' In.ne_add In.ne_add' In.lt_add Upto.le_true Upto.le_add Upto.lt_add
attribute [-go_sem] sliced
attribute [local go_sem] sliced_eq
/-- The product of two numbers, one where the other is 0. -/
def addO (x y : Int) : Int := x + y
def mulO (x y : Int) : Int := x * y
def whO (x y : Int) : Int := if y = 0 then x else 0
def Small (op : Int → Int → Int) : Prop := ∀ x y, (-1073741824 ≤ x ∧ x ≤ 1073741824) → (-1073741824 ≤ y ∧ y ≤ 1073741824) → -1152921504606846976 ≤ op x y ∧ op x y ≤ 1152921504606846976
end Go.Proofs.YtiknkcadbaeknaaGreat
set_option linter.unusedVariables false
set_option linter.unusedSimpArgs false
namespace Go.Proofs.YtiknkcadbaeknaaGreat
open Go.RowKit
attribute [local go_sem] GW.cell GW.frozen In.eq_true In.le_true In.ne In.ne' In.ne_add In.ne_add' In.lt_add Upto.le_true Upto.le_add Upto.lt_add Oper.semAt_some wide_depth wide_fn
section
variable {α : Type} {f : α → Lit × Value} {P : Program} {k : TypeId} {w : World} {b n : Nat} {M : List α} {ops : Array Oper} {rest : List Oper} {o : Oper} {a : Act} {Q : Exit → Act → World → Prop} {F : Fence} {d : Nat}
end
/-- A row of the sum, and what is wrong with it. -/
def sumG (T : List Fe) (g : Gp) : Gp := (g.1, twR addO (jmpAt T g.1) g.2)
def sumE (T : List Fe) (g : Gp) : Int := twE addO (jmpAt T g.1) g.2
def FbM (mN b : Nat) (W : World) : Prop := b ≠ mN
abbrev IS (w : World) (b2 b4 b5 b6 mN B mb : Nat) (T : List Fe) (B0 : Nat) (G : List Gp) (k : Nat) (W : World) : Prop :=
  ((Ob W b4 132 [.map none] ∧ Ob W b5 35 [.int .i64 0]) ∧ (Ob W b2 79 [.pointer (some ⟨B, 0, none⟩)] ∧ Ob W b6 132 [.map (some mN)])) ∧
  ((∃ U : List Fe, (Mv W Tryz.prog 9 (fent rowB) mN U.length U ∧ ∀ p, ∀ (_ : p ∈ U), Rw W [mN, B, mb, b4, b5] p.1 p.2.2.1 ∧ Jw W [mN, B, mb, b4, b5] p.2.1 p.2.2.2) ∧ ((U.map (·.2.2)).Perm ((G.take k).map (sumG T)) ∧ ∀ g ∈ G.take k, sumE T g = 0)) ∧ (Ext w W ∧ B0 ≤ W.heap.size))
abbrev IxS (w : World) (b4 b5 : Nat) (T : List Fe) (G : List Gp) (c : Code) (k : Nat) (W : World) : Prop :=
  c = .ret ∧ ((∃ E : Int, (∃ g ∈ G, sumE T g ≠ 0 ∧ E = sumE T g) ∧ (Ob W b4 132 [.map none] ∧ Ob W b5 35 [.int .i64 E])) ∧ Ext w W)
end Go.Proofs.YtiknkcadbaeknaaGreat
set_option linter.unusedVariables false
set_option linter.unusedSimpArgs false
namespace Go.Proofs.YtiknkcadbaeknaaGreat
open Go.RowKit
/-- Block b holds no cells of type e. -/
def NT (w : World) (e : TypeId) (b : Nat) : Prop := ∀ cs c, w.heap[b]? ≠ some (.cells cs e c)
theorem Ob.nt {w : World} {b : Nat} {T e : TypeId} {vs : List Value} (h : Ob w b T vs) (hT : T ≠ e) : NT w e b := fun cs c hc => by
  unfold Ob at h
  rw [h] at hc
  injection hc with hc
  injection hc with _ h2
  exact hT h2
theorem map_nt {w : World} {b : Nat} {e : TypeId} (h : ∃ es c, w.heap[b]? = some (.map es c)) : NT w e b := fun cs c hc => by
  obtain ⟨es, c', h⟩ := h
  rw [h] at hc
  cases hc
theorem own_nt {w : World} {base e e2 sz n : Nat} {v : Value} {xs : List Value} (h : w.ownsRow base e2 sz v n xs) (hT : e2 ≠ e) : ∀ b ∈ ob v, NT w e b := by
  intro b hb cs c hc
  rcases h.2 with ⟨rfl, -⟩ | ⟨g, cap, cur, rfl, -, hg, -⟩
  · simp [ob, Value.ownBlock] at hb
  · have : b = g := by simpa [ob, Value.ownBlock] using hb
    subst this
    rw [hg] at hc
    injection hc with hc
    injection hc with _ h2
    exact hT h2
/-- A row of one's own stays where blocks without its cells are turned. -/
theorem own_stay {w w' : World} {S : List Nat} {base e sz n : Nat} {v : Value} {xs : List Value} (h : w.ownsRow base e sz v n xs) (hF : Fr S w w') (hS : ∀ b ∈ S, NT w e b) : w'.ownsRow base e sz v n xs := by
  refine ⟨h.1, ?_⟩
  rcases h.2 with h2 | ⟨g, cap, cur, e1, hb, hg, r⟩
  · exact .inl h2
  · exact .inr ⟨g, cap, cur, e1, hb, (hF.block g (lt_of_block hg) (fun m => hS g m _ _ hg)).trans hg, r⟩
def RwO (w : World) (v : Value) (l : List Vl) : Prop := w.ownsRow 0 93 3 v l.length (rc l)
theorem RwO.rw {w : World} {v : Value} {l : List Vl} (h : RwO w v l) : Rw w [] v l := Sl.own h (by simp)
theorem RwO.ext {w w' : World} {v : Value} {l : List Vl} (h : RwO w v l) (k : Ext w w') : RwO w' v l := own_ext h k
theorem RwO.stay {w w' : World} {S : List Nat} {v : Value} {l : List Vl} (h : RwO w v l) (hF : Fr S w w') (hS : ∀ b ∈ S, NT w 93 b) : RwO w' v l := own_stay h hF hS
/-- A list of one's own: each element has a row. -/
def OwnX {α : Type} (e : TypeId) (sz : Nat) (f : Value → α → List Value) (row : α → List Vl) (w : World) (base : Nat) (v : Value) (L : List (Value × α)) : Prop := w.ownsRow base e sz v L.length (L.flatMap fun p => f p.1 p.2) ∧ ∀ p ∈ L, RwO w p.1 (row p.2)
section
variable {α : Type} {e : TypeId} {sz : Nat} {f : Value → α → List Value} {row : α → List Vl} {w w' : World} {base : Nat} {v v' : Value} {L M : List (Value × α)}
theorem OwnX.nil (w : World) (base : Nat) : OwnX e sz f row w base (.slice none 0 0) [] := ⟨World.ownsRow_nil _ _ _ _, by simp⟩
theorem OwnX.ext (h : OwnX e sz f row w base v L) (k : Ext w w') : OwnX e sz f row w' base v L := ⟨own_ext h.1 k, fun p hp => (h.2 p hp).ext k⟩
theorem OwnX.stay {S : List Nat} (h : OwnX e sz f row w base v L) (hF : Fr S w w') (hS : ∀ b ∈ S, NT w e b ∧ NT w 93 b) : OwnX e sz f row w' base v L := ⟨own_stay h.1 hF fun b hb => (hS b hb).1, fun p hp => (h.2 p hp).stay hF fun b hb => (hS b hb).2⟩
theorem OwnX.app (he : e ≠ 93) (h : OwnX e sz f row w base v L) (ho : w'.ownsRow base e sz v' (L.length + M.length) ((L.flatMap fun p => f p.1 p.2) ++ M.flatMap fun p => f p.1 p.2)) (hg : w.grownBy w' v.ownBlock) (hM : ∀ p ∈ M, RwO w p.1 (row p.2)) : OwnX e sz f row w' base v' (L ++ M) := by
  refine ⟨by rw [List.length_append, List.flatMap_append]; exact ho, fun p hp => ?_⟩
  have hF := fr_grown hg
  have hN := own_nt h.1 he
  rcases List.mem_append.1 hp with hp | hp
  · exact (h.2 p hp).stay hF hN
  · exact (hM p hp).stay hF hN
theorem OwnX.form (h : OwnX e sz f row w base v L) : ∃ A cap, v = .slice A L.length cap := own_form h.1
end
/-- What a report leaves as it is. -/
theorem put_done {w w' wA : World} {s mb : Nat} {S : List Nat} (hF : Fr S w w') (hX : Ext wA w) (hS : ∀ b ∈ S, wA.heap.size ≤ b ∧ b ≠ s ∧ b ≠ mb) (hst : StOk w s mb) : Ext wA w' ∧ w'.heap[s]? = w.heap[s]? ∧ w'.heap[mb]? = w.heap[mb]? := by
  obtain ⟨⟨vs, h1⟩, es, c, h2⟩ := hst
  exact ⟨ext_fr hX hF fun b hb => (hS b hb).1, hF.block s h1.lt fun m => (hS s m).2.1 rfl, hF.block mb (lt_of_block h2) fun m => (hS mb m).2.2 rfl⟩
theorem StOk.nt {w : World} {s mb : Nat} (h : StOk w s mb) {e : TypeId} (he : 170 ≠ e) : ∀ b ∈ [s, mb], NT w e b := by
  obtain ⟨⟨vs, h1⟩, h2⟩ := h
  intro b hb
  simp only [List.mem_cons, List.not_mem_nil, or_false] at hb
  rcases hb with rfl | rfl
  · exact h1.nt he
  · exact map_nt h2
theorem StOk.ne_ob {w : World} {s mb b : Nat} {T : TypeId} {vs : List Value} (h : StOk w s mb) (hb : Ob w b T vs) (hT : 170 ≠ T) : b ≠ s ∧ b ≠ mb := by
  have h1 := h.nt hT
  exact ⟨fun e => by subst e; exact h1 b (by simp) _ _ hb, fun e => by subst e; exact h1 b (by simp) _ _ hb⟩
theorem StOk.ne_own {w : World} {s mb base e sz n : Nat} {v : Value} {xs : List Value} (h : StOk w s mb) (ho : w.ownsRow base e sz v n xs) (hT : 170 ≠ e) : ∀ b ∈ ob v, b ≠ s ∧ b ≠ mb := by
  have h1 := h.nt hT
  intro b hb
  rcases ho.2 with ⟨rfl, -⟩ | ⟨g, cap, cur, rfl, -, hg, -⟩
  · simp [ob, Value.ownBlock] at hb
  · have : b = g := by simpa [ob, Value.ownBlock] using hb
    subst this
    exact ⟨fun e => by subst e; exact h1 b (by simp) _ _ hg, fun e => by subst e; exact h1 b (by simp) _ _ hg⟩
end Go.Proofs.YtiknkcadbaeknaaGreat
