/-
  A helper of ours: no claim of its own. Layer 10 (edge): what is made of each row's jumps (edge.each).
-/
import Derived.Test.YtjdbjnpomndfjaaReg3
import Derived.Test.YtjdbjnpomndfjaaRx
import Derived.Test.YtjdbjnpomndfjaaEdgO
import Derived.Test.YtjdbjnpomndfjaaStepR
set_option linter.unusedVariables false
set_option linter.unusedSimpArgs false
namespace Go.Proofs.Ytjdbjnpomndfjaa
open Go.RowKit
/-- What is asked of an end that is no leave. -/
def onlyN (Q : Exit → Act → World → Prop) : Exit → Act → World → Prop
  | .normal, a, w => Q .normal a w
  | _, _, _ => False
theorem onlyN_out {Q : Exit → Act → World → Prop} (h : LetsOut (onlyN Q)) : False := by obtain ⟨a, w, h⟩ := h; exact h
def noDefer (o : Oper) : Bool := match o.op with | .defer _ => false | _ => true
theorem noDefer_spec {o : Oper} (h : noDefer o = true) : ∀ c, o.op ≠ .defer c := fun c e => by unfold noDefer at h; rw [e] at h; cases h
section
variable {P : Program} {l n : Nat} {ops : Array Oper} {Q : Exit → Act → World → Prop}
theorem opIn_of_op {o : Oper} {a : Act} {w : World} {K : Act → World → Prop} (hd : noDefer o = true) (h : o.wp P a w K (onlyN Q)) : o.wpIn (Fence.wide.inRound l) n P a w K Q := by
  unfold Oper.wpIn
  refine ⟨fun _ _ => trivial, ?_⟩
  rw [show (Fence.wide.inRound l).round = some l from rfl, Oper.semAt_some l _ _ (noDefer_spec hd)]
  unfold Oper.wp at h
  generalize (execOp a.eval o).run P w = r at *
  cases r with
  | ok x w' =>
    cases x <;> simp only [Oper.upon, Oper.uponIn] at h ⊢
    all_goals first
      | exact h
      | exact ⟨fun h => by simp [Fence.wide] at h, in_round (h.mono fun e w'' he => by
          cases e with
          | returned v => exact he
          | panicked ch => exact he.elim
          | outgrown => exact (onlyN_out he).elim)⟩
      | exact ⟨fun h => by simp [Fence.wide] at h, fun c cs _ => let ⟨v, w', r, s⟩ := h c cs; ⟨v, w', r, stepsIn_wide.2 s⟩⟩
  | halt x w' =>
    cases x <;> simp only [Oper.upon, Oper.uponIn] at h ⊢
    all_goals first
      | exact h.elim
      | exact h
theorem anyIn_of_any (hd : ∀ (i : Nat) (o : Oper), ops[i]? = some o → noDefer o = true) : ∀ (f : Nat) (listed : Array Bool) (a : Act) (w : World), wpAny P .any ops (onlyN Q) f listed a w → wpAnyIn (Fence.wide.inRound l) n P .any ops Q f listed a w
  | 0, listed, a, w, h => h
  | f + 1, listed, a, w, h => by
    refine ⟨fun hr => h.1 hr, fun i hi => ?_⟩
    have h2 := h.2 i hi
    unfold wpOp at h2
    unfold wpOpIn
    split
    · rename_i ho
      simp only [ho] at h2
      exact anyIn_of_any hd f _ _ _ h2
    · rename_i o ho
      simp only [ho] at h2
      split
      · rename_i hw
        simp only [hw, if_true] at h2
        rcases h2 with h2 | ⟨_, h2⟩
        · exact opIn_of_op (hd i o ho) (Oper.wp_mono (fun a w hk => anyIn_of_any hd f _ a w hk) h2)
        · exact (onlyN_out h2).elim
      · rename_i hw
        simp only [hw] at h2
        exact ⟨fun _ _ => trivial, anyIn_of_any hd f _ _ _ h2⟩
end
section
variable {P : Program} {ops : Array Oper} {Q : Exit → Act → World → Prop} {a : Act}
theorem wpIn_region_list_tail {l m id : Nat} {w : World} (n : Nat) (L : List Fact) (hdf : ops.toList.all noDefer = true) (hm : P.follows .mixedOrders = true) (hA : acycB ops = true) (hD : dstsB ops a.tmps.size = true)
    (hn : decide (n < ops.size) = true) (hs : Region.sinkB .any ops n = true) (hc : Region.chainB .any ops n = true) (hq : Region.seqB .any ops (ops.size - n) n (Array.replicate n true ++ Array.replicate (ops.size - n) false) = true)
    (hstep : RSteps (fun k o => ∀ b w', RAt ops (factsOf L) a w k b w' → (∀ t, t ∉ dstsOf (ops.toList.take n).toArray → b.tmps.getD t undef = a.tmps.getD t undef) → RGood P ops (factsOf L) (onlyN Q) k o b w') 0 (ops.toList.take n))
    (hend : ∀ b w', Ext w w' → b.defers = a.defers → b.tmps.size = a.tmps.size → (∀ t, t ∉ dstsOf (ops.toList.take n).toArray → b.tmps.getD t undef = a.tmps.getD t undef) →
      (∀ j o d, j < n → ops[j]? = some o → o.dst = some d → factsOf L j (b.tmps.getD d undef) w') → wpList P ops (onlyN Q) (ops.toList.drop n) b w') : (Code.region id ops true).wpIn (Fence.wide.inRound l) m P Q a w := by
  have hn' := of_decide_eq_true hn
  have hd : ∀ (i : Nat) (o : Oper), ops[i]? = some o → noDefer o = true := fun i o ho => List.all_eq_true.1 hdf o (List.mem_of_getElem? (by rw [Array.getElem?_toList]; exact ho))
  refine wpIn_region_any hm (anyIn_of_any hd _ _ _ _ ?_)
  have := wpAny_facts_tail (P := P) (Φ := factsOf L) (Q := onlyN Q) (W := w) hA hD hn' hs hc hq (fun i v w w' h hx => Fact.stays _ v w w' h hx) (fun i o hi ho b w' h hE => by
    have := RSteps.get 0 (ops.toList.take n) hstep i o (by rw [List.getElem?_take, if_pos hi]; simpa using ho) b w'
    rw [Nat.zero_add] at this
    exact this h hE) (fun b w' h1 h2 h3 _ h5 h6 => hend b w' h1 h2 h3 h6 h5) n (Array.replicate ops.size false) a { w with drawn := w.drawn + 1 } ⟨(Ext.refl w).drew, rfl, rfl, by simp, fun _ _ => rfl, fun j o d ho hl _ => ?_⟩ (fun _ _ => rfl)
    ⟨by simp, fun j oj _ hl => (by rw [getD_replicate_false] at hl; cases hl), fun t _ ht => getD_in (by simpa using ht) (getD_replicate_false _ _)⟩ (by
      rw [Array.toList_replicate, List.take_replicate, cntF_rep]; omega)
  · rwa [show n + (ops.size - n) = ops.size by omega] at this
  · rw [getD_replicate_false] at hl; cases hl
end
end Go.Proofs.Ytjdbjnpomndfjaa
set_option linter.unusedVariables false
set_option linter.unusedSimpArgs false
namespace Go.Proofs.Ytjdbjnpomndfjaa
open Go.RowKit
attribute [local go_sem] GW.cell GW.frozen In.eq_true In.le_true In.ne In.ne' In.ne_add In.ne_add' In.lt_add Upto.le_true Upto.le_add Upto.lt_add Oper.semAt_some wide_depth wide_fn
theorem evE_ok {op : List Jp → Int × List Jp} : ∀ {G : List Gp}, (∀ g ∈ G, (op g.2).1 = 0) → evE op G = 0
  | [], _ => rfl
  | g :: t, h => by rw [evE, if_pos (h g (by simp)), evE_ok fun x hx => h x (by simp [hx])]
theorem evE_bad {op : List Jp → Int × List Jp} : ∀ {G : List Gp} {k : Nat} {x : Gp}, (∀ g ∈ G.take k, (op g.2).1 = 0) → G[k]? = some x → (op x.2).1 ≠ 0 → evE op G = (op x.2).1
  | g :: t, 0, x, _, hx, h => by
    obtain rfl : g = x := by simpa using hx
    rw [evE, if_neg h]
  | g :: t, k + 1, x, hp, hx, h => by
    rw [evE, if_pos (hp g (by simp)), evE_bad (k := k) (fun y hy => hp y (by simp [hy])) (by simpa using hx) h]
theorem each_bad {op : List Jp → Int × List Jp} {G : List Gp} {k : Nat} {x : Gp} (hp : ∀ g ∈ G.take k, (op g.2).1 = 0) (hx : G[k]? = some x) (h : (op x.2).1 ≠ 0) : eachE op G = (op x.2).1 := by
  unfold eachE
  rw [evE_bad hp hx h, if_neg h]
theorem ob_obj {w : World} {base e size n : Nat} {v : Value} {xs : List Value} (h : w.ownsRow base e size v n xs) : ∀ y ∈ ob v, ∃ T vs, Ob w y T vs := by
  intro y hy
  have hy' : v.ownBlock = some y := by simpa [ob] using hy
  rcases h.2 with ⟨rfl, _⟩ | ⟨g, cap, cur, rfl, hb, hg, _⟩
  · cases hy'
  · have : y = g := by simpa [Value.ownBlock] using hy'.symm
    subst this
    exact ⟨e, cur.toList, by unfold Ob; simpa using hg⟩
def ownF (B : Nat) (q : List Vl) (R : List Jp) : Fact := .st (fun u w => ∃ M2, eds M2 = R.map (fun j => (q, j)) ∧ OwnEr w B u M2) (fun _ _ _ h k => by obtain ⟨M2, h1, h2⟩ := h; exact ⟨M2, h1, h2.ext k⟩)
theorem grp_len : ∀ l : List Ed, (grp l).length ≤ l.length
  | [] => Nat.le_refl _
  | e :: r => by
    have ih := grp_len r
    unfold grp
    split
    · simp
    · rename_i q f t h
      rw [h] at ih
      split <;> simp only [List.length_cons] at ih ⊢ <;> omega

end Go.Proofs.Ytjdbjnpomndfjaa
