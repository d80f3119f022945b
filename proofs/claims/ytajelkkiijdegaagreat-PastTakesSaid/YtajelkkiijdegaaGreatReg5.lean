/-
  A helper of ours: no claim of its own. A region that draws its order, whose first operation is a move that the tail's first operation does not wait for ('p.x = append(p.x, ..)'): as if it did.
-/
import Derived.Test.YtajelkkiijdegaaGreatReg
set_option linter.unusedVariables false
set_option linter.unusedSimpArgs false
namespace Go.Proofs.YtajelkkiijdegaaGreat
open Go.RowKit

section
variable {P : Program} {ops : Array Oper} {Φ : Nat → Value → World → Prop} {Q : Exit → Act → World → Prop} {a : Act} {W : World}
theorem cntF_pos : ∀ (l : List Bool) (i : Nat), l[i]? = some false → 0 < cntF l := by
  intro l i h
  have := cntF_set l i h
  omega
theorem cntF_some : ∀ (l : List Bool), 0 < cntF l → ∃ i : Nat, l[i]? = some false := by
  intro l h
  refine Classical.byContradiction fun hn => ?_
  have : ∀ l : List Bool, (∀ i : Nat, l[i]? ≠ some false) → cntF l = 0 := by
    intro l
    induction l with
    | nil => intro _; rfl
    | cons b r ih =>
      intro hb
      have h0 := hb 0
      have hr := ih fun i => by have := hb (i + 1); simpa using this
      cases b
      · simp at h0
      · simpa [cntF] using hr
  have := this l fun i e => hn ⟨i, e⟩
  omega
theorem wpAny_facts_tail {n : Nat} (hA : acycB ops = true) (hD : dstsB ops a.tmps.size = true) (hn : n < ops.size) (hs : Region.sinkB .any ops n = true) (hc : Region.chainB .any ops n = true)
    (hq : Region.seqB .any ops (ops.size - n) n (Array.replicate n true ++ Array.replicate (ops.size - n) false) = true)
    (hst : ∀ i v w w', Φ i v w → Ext w w' → Φ i v w')
    (hstep : ∀ i o, i < n → ops[i]? = some o → ∀ b w, RAt ops Φ a W i b w → (∀ t, t ∉ dstsOf (ops.toList.take n).toArray → b.tmps.getD t undef = a.tmps.getD t undef) → RGood P ops Φ Q i o b w)
    (hend : ∀ b w, Ext W w → b.defers = a.defers → b.tmps.size = a.tmps.size → (∀ t, t ∉ dstsOf ops → b.tmps.getD t undef = a.tmps.getD t undef) →
      (∀ j o d, j < n → ops[j]? = some o → o.dst = some d → Φ j (b.tmps.getD d undef) w) → (∀ t, t ∉ dstsOf (ops.toList.take n).toArray → b.tmps.getD t undef = a.tmps.getD t undef) → wpList P ops Q (ops.toList.drop n) b w) :
    ∀ (f : Nat) (listed : Array Bool) (b : Act) (w : World), RInv ops Φ a W listed b w → (∀ t, t ∉ dstsOf (ops.toList.take n).toArray → b.tmps.getD t undef = a.tmps.getD t undef) → HeadInv .any ops n listed → cntF (listed.toList.take n) = f → wpAny P .any ops Q (f + (ops.size - n)) listed b w := by
  intro f
  induction f with
  | zero =>
    intro listed b w I I2 H hcn
    have hl : ∀ j, j < n → listed.getD j false = true := by
      intro j hj
      have hjl : j < listed.size := by have := I.len; omega
      have e1 := getD_some (l := listed) (d := false) hjl
      cases h : listed.getD j false with
      | true => rfl
      | false =>
        rw [h] at e1
        have := cntF_pos (listed.toList.take n) j (by rw [List.getElem?_take, if_pos hj]; simpa using e1)
        omega
    have hle : listed = Array.replicate n true ++ Array.replicate (ops.size - n) false := by
      have hlen := I.len
      apply Array.ext
      · simp; omega
      · intro i h1 h2
        by_cases hi : i < n
        · have := hl i hi
          have e1 := getD_some (l := listed) (d := false) h1
          rw [this, Array.getElem?_eq_getElem h1] at e1
          rw [Option.some.inj e1, Array.getElem_append_left (by simpa using hi)]; simp
        · have := H.tail i (by omega) (by omega)
          have e1 := getD_some (l := listed) (d := true) h1
          rw [this, Array.getElem?_eq_getElem h1] at e1
          rw [Option.some.inj e1, Array.getElem_append_right (by simp; omega)]; simp
    have hd : (ops.toList.drop n).length = ops.size - n := by simp
    rw [Nat.zero_add, ← hd]
    refine wpAny_of_seq (md := .any) (ops.toList.drop n) n listed b w (fun j => by simp [List.getElem?_drop]) (by rw [hd, hle]; exact hq) ?_
    exact hend b w I.ext I.defers I.size I.else_ (fun j o d hj ho hd => I.fact j o d ho (hl j hj) hd) I2
  | succ f ih =>
    intro listed b w I I2 H hcn
    obtain ⟨i0, hi0⟩ := cntF_some (listed.toList.take n) (by omega)
    have hi0n : i0 < n := by
      rcases Nat.lt_or_ge i0 n with h | h
      · exact h
      · rw [List.getElem?_take, if_neg (by omega)] at hi0; cases hi0
    have hun0 : listed.getD i0 true = false := by
      rw [List.getElem?_take, if_pos hi0n] at hi0
      rw [Array.getD_eq_getD_getElem?]
      simp at hi0
      rw [hi0]; rfl
    rw [show f + 1 + (ops.size - n) = (f + (ops.size - n)) + 1 by omega]
    refine ⟨fun hr => ?_, fun i hi => ?_⟩
    · have := all_listed hA I.len hr i0 (by omega)
      have hjl : i0 < listed.size := by have := I.len; omega
      have e1 := getD_some (l := listed) (d := false) hjl
      have e2 := getD_some (l := listed) (d := true) hjl
      rw [e1] at e2; have e3 := Option.some.inj e2; rw [this, hun0] at e3; cases e3
    · have hin : i < n := by
        rcases Nat.lt_or_ge i n with h | h
        · exact h
        · exact absurd hi (tail_waits hs hc hn H _ i0 rfl hi0n hun0 i h)
      obtain ⟨h1, o, ho, hdep⟩ := mem_ready.1 hi
      have hj := (Array.getElem?_eq_some_iff.1 ho).1
      have hjl : i < listed.size := by have := I.len; omega
      have hat : RAt ops Φ a W i b w := ⟨I.ext, I.defers, I.size, I.else_, fun j p d hd hp hpd => I.fact j p d hp (by
        unfold depB at hd; rw [ho] at hd
        obtain ⟨k, hk, he⟩ := Array.any_eq_true.1 hd
        simp only [Bool.and_eq_true, beq_iff_eq] at he
        have := hdep _ (Array.getElem_mem hk) he.1
        rwa [he.2] at this) hpd⟩
      have hget : (listed.toList.take n)[i]? = some false := by
        rw [List.getElem?_take, if_pos hin]
        have e2 := getD_some (l := listed) (d := true) hjl
        rw [h1] at e2; simpa using e2
      have hcnt : cntF ((listed.setIfInBounds i true).toList.take n) = f := by
        have := cntF_set _ i hget
        simp only [Array.toList_setIfInBounds, List.take_set]; omega
      have go : ∀ (v : Value) (w' : World), Φ i v w' → Ext w w' → wpAny P .any ops Q (f + (ops.size - n)) (listed.setIfInBounds i true) (b.put o.dst v) w' := by
        intro v w' hv hx
        refine ih _ _ _ ⟨I.ext.trans hx, put_defers.trans I.defers, put_size.trans I.size, by simpa using I.len, fun t ht => ?_, fun j p d hp hl hd => ?_⟩ ?_ (H.set hi hin) hcnt
        · rw [put_other, I.else_ t ht]
          intro e
          exact ht (List.mem_filterMap.2 ⟨o, by rw [Array.mem_toList_iff]; exact Array.mem_of_getElem? ho, e⟩)
        · have hds : d < b.tmps.size := by
            rw [I.size]
            have := List.all_eq_true.1 (Bool.and_eq_true_iff.1 hD).1 d (List.mem_filterMap.2 ⟨p, by rw [Array.mem_toList_iff]; exact Array.mem_of_getElem? hp, hd⟩)
            simpa using this
          by_cases hij : i = j
          · subst hij
            rw [ho] at hp; cases hp
            rw [hd, put_same hds]; exact hv
          · have hl' : listed.getD j false = true := by
              rw [Array.getD_eq_getD_getElem?, Array.getElem?_setIfInBounds, if_neg hij] at hl
              rw [Array.getD_eq_getD_getElem?]; exact hl
            have hpj := (Array.getElem?_eq_some_iff.1 hp).1
            have hne : o.dst ≠ some d := by
              intro e
              have h2 := List.all_eq_true.1 (List.all_eq_true.1 (Bool.and_eq_true_iff.1 hD).2 i (List.mem_range.2 hj)) j (List.mem_range.2 hpj)
              simp [hij, ho, hp, e, hd] at h2
            rw [put_other hne]
            exact hst _ _ _ _ (I.fact j p d hp hl' hd) hx
        · intro t ht
          rw [put_other, I2 t ht]
          intro e
          refine ht (List.mem_filterMap.2 ⟨o, ?_, e⟩)
          rw [Array.mem_toList_iff]
          refine Array.mem_of_getElem? (i := i) ?_
          rw [List.getElem?_toArray, List.getElem?_take, if_pos hin]; simpa using ho
      unfold wpOp
      rcases hstep i o hin ho b w hat I2 with ⟨hw, hwp⟩ | ⟨hw, hv⟩
      · simp only [ho, hw, if_true]
        left
        refine Oper.wp_mono ?_ hwp
        rintro b' w' ⟨v, rfl, hv, hx⟩
        exact go v w' hv hx
      · simp only [ho, hw]
        exact go undef w hv (Ext.refl w)
theorem wp_region_list_tail {id : Nat} {w : World} (n : Nat) (L : List Fact) (hm : P.follows .mixedOrders = true) (hA : acycB ops = true) (hD : dstsB ops a.tmps.size = true)
    (hn : decide (n < ops.size) = true) (hs : Region.sinkB .any ops n = true) (hc : Region.chainB .any ops n = true) (hq : Region.seqB .any ops (ops.size - n) n (Array.replicate n true ++ Array.replicate (ops.size - n) false) = true)
    (hstep : RSteps (fun k o => ∀ b w', RAt ops (factsOf L) a w k b w' → (∀ t, t ∉ dstsOf (ops.toList.take n).toArray → b.tmps.getD t undef = a.tmps.getD t undef) → RGood P ops (factsOf L) Q k o b w') 0 (ops.toList.take n))
    (hend : ∀ b w', Ext w w' → b.defers = a.defers → b.tmps.size = a.tmps.size → (∀ t, t ∉ dstsOf (ops.toList.take n).toArray → b.tmps.getD t undef = a.tmps.getD t undef) →
      (∀ j o d, j < n → ops[j]? = some o → o.dst = some d → factsOf L j (b.tmps.getD d undef) w') → wpList P ops Q (ops.toList.drop n) b w') : (Code.region id ops true).wp P Q a w := by
  have hn' := of_decide_eq_true hn
  refine wp_region_any hm ?_
  have := wpAny_facts_tail (P := P) (Φ := factsOf L) (Q := Q) (W := w) hA hD hn' hs hc hq (fun i v w w' h hx => Fact.stays _ v w w' h hx) (fun i o hi ho b w' h hE => by
    have := RSteps.get 0 (ops.toList.take n) hstep i o (by rw [List.getElem?_take, if_pos hi]; simpa using ho) b w'
    rw [Nat.zero_add] at this
    exact this h hE) (fun b w' h1 h2 h3 _ h5 h6 => hend b w' h1 h2 h3 h6 h5) n (Array.replicate ops.size false) a { w with drawn := w.drawn + 1 } ⟨(Ext.refl w).drew, rfl, rfl, by simp, fun _ _ => rfl, fun j o d ho hl _ => ?_⟩ (fun _ _ => rfl)
    ⟨by simp, fun j oj _ hl => (by rw [getD_replicate_false] at hl; cases hl), fun t _ ht => getD_in (by simpa using ht) (getD_replicate_false _ _)⟩ (by
      rw [Array.toList_replicate, List.take_replicate, cntF_rep]; omega)
  · rwa [show n + (ops.size - n) = ops.size by omega] at this
  · rw [getD_replicate_false] at hl; cases hl
theorem good_grow {i : Nat} {o : Oper} {b : Act} {w w' : World} {v : Value} (hg : Region.wanted o (yielded ops b.tmps) = true) (hr : (execOp b.eval o).run P w = .ok (.value v) w') (hΦ : Φ i v w') (hx : Ext w w') : RGood P ops Φ Q i o b w :=
  .inl ⟨hg, by unfold Oper.wp; rw [hr]; exact ⟨v, rfl, hΦ, hx⟩⟩
end
end Go.Proofs.YtajelkkiijdegaaGreat
set_option linter.unusedVariables false
set_option linter.unusedSimpArgs false
namespace Go.Proofs.YtajelkkiijdegaaGreat
open Go.RowKit
/-- What is asked of an end that is no leave. -/
def onN (Q : Exit → Act → World → Prop) : Exit → Act → World → Prop
  | .normal, a, w => Q .normal a w
  | _, _, _ => False
theorem onN_out {Q : Exit → Act → World → Prop} (h : LetsOut (onN Q)) : False := by obtain ⟨a, w, h⟩ := h; exact h
/-- Operation n waits for operation 0, too. -/
def waitMore (ops : Array Oper) (n : Nat) : Array Oper := ops.modify n fun o => { o with after := o.after.push ⟨0, .phase⟩ }
/-- Operation 0 is a move that waits for nothing; each other one waits for it, or has nothing to do with it. -/
def looseB (ops : Array Oper) : Bool := match ops[0]? with
  | some o0 => (match o0.op with | .move _ => true | _ => false) && o0.guard.isNone && o0.after.isEmpty && Region.noSelect ops && (List.range ops.size).all fun j => j == 0 || match ops[j]? with
    | some oj => oj.after.any (fun e => Region.binds .any e && e.on == 0) || o0.apart ops oj
    | none => true
  | none => false
section
variable {P : Program} {ops : Array Oper} {n : Nat} {Q : Exit → Act → World → Prop}
theorem wp_onN {o : Oper} {a : Act} {w : World} {K : Act → World → Prop} (h : o.wp P a w K (onN Q)) : o.wp P a w K Q := by
  unfold Oper.wp at *
  generalize (execOp a.eval o).run P w = r at *
  cases r with
  | ok x w' =>
    cases x <;> simp only [Oper.upon] at h ⊢
    all_goals first
      | exact h
      | exact h.mono fun e w'' he => by
          cases e with
          | returned v => exact he
          | panicked ch => exact he.elim
          | outgrown => exact (onN_out he).elim
  | halt x w' =>
    cases x <;> simp only [Oper.upon] at h ⊢
    all_goals first
      | exact h.elim
      | exact h
theorem any_onN : ∀ (f : Nat) (listed : Array Bool) (a : Act) (w : World), wpAny P .any ops (onN Q) f listed a w → wpAny P .any ops Q f listed a w
  | 0, listed, a, w, h => h
  | f + 1, listed, a, w, h => by
    refine ⟨fun hr => h.1 hr, fun i hi => ?_⟩
    have h2 := h.2 i hi
    unfold wpOp at h2 ⊢
    split
    · rename_i ho
      simp only [ho] at h2
      exact any_onN f _ _ _ h2
    · rename_i o ho
      simp only [ho] at h2
      split
      · rename_i hw
        simp only [hw, if_true] at h2
        rcases h2 with h2 | ⟨_, h2⟩
        · exact .inl (wp_onN (Oper.wp_mono (fun a w hk => any_onN f _ a w hk) h2))
        · exact (onN_out h2).elim
      · rename_i hw
        simp only [hw] at h2
        exact any_onN f _ _ _ h2
theorem more_size : (waitMore ops n).size = ops.size := by simp [waitMore]
theorem more_get (j : Nat) : (waitMore ops n)[j]? = if n = j then (ops[j]?).map (fun o => { o with after := o.after.push ⟨0, .phase⟩ }) else ops[j]? := by
  unfold waitMore
  rw [Array.getElem?_modify]
theorem more_dst (j : Nat) : ((waitMore ops n)[j]?).bind (·.dst) = (ops[j]?).bind (·.dst) := by
  rw [more_get]
  by_cases h : n = j
  · rw [if_pos h]; cases ops[j]? <;> rfl
  · rw [if_neg h]
theorem more_yielded (t : Array Value) : yielded (waitMore ops n) t = yielded ops t := by
  funext g
  unfold yielded
  rw [more_dst]
theorem more_wpOp {j : Nat} {K K' : Act → World → Prop} {a : Act} {w : World} (hK : ∀ a w, K a w → K' a w) (h : wpOp P (waitMore ops n) Q j K a w) : wpOp P ops Q j K' a w := by
  refine wpOp_mono hK ?_
  unfold wpOp at h ⊢
  rw [more_yielded, more_get] at h
  by_cases hj : n = j
  · rw [if_pos hj] at h
    cases ho : ops[j]? with
    | none => rw [ho] at h; exact h
    | some o => rw [ho] at h; exact h
  · rw [if_neg hj] at h; exact h
theorem more_ready {listed : Array Bool} (h0 : listed.getD 0 false = true) {j : Nat} : j ∈ Region.ready .any (waitMore ops n) listed ↔ j ∈ Region.ready .any ops listed := by
  rw [mem_ready, mem_ready, more_get]
  by_cases hj : n = j
  · rw [if_pos hj]
    constructor
    · rintro ⟨h1, o, ho, hall⟩
      rw [Option.map_eq_some_iff] at ho
      obtain ⟨o', ho', rfl⟩ := ho
      exact ⟨h1, o', ho', fun e he hb => hall e (by simp [he]) hb⟩
    · rintro ⟨h1, o, ho, hall⟩
      refine ⟨h1, _, by rw [ho]; rfl, fun e he hb => ?_⟩
      rcases Array.mem_push.1 he with he | rfl
      · exact hall e he hb
      · exact h0
  · rw [if_neg hj]
theorem any_more : ∀ (f : Nat) (listed : Array Bool) (a : Act) (w : World), listed.getD 0 false = true → wpAny P .any (waitMore ops n) Q f listed a w → wpAny P .any ops Q f listed a w
  | 0, listed, a, w, h0, h => by
    refine ⟨?_, h.2⟩
    rw [List.eq_nil_iff_forall_not_mem]
    intro j hj
    have := (more_ready (n := n) h0).2 hj
    rw [h.1] at this; cases this
  | f + 1, listed, a, w, h0, h => by
    refine ⟨fun hr => h.1 ?_, fun j hj => ?_⟩
    · rw [List.eq_nil_iff_forall_not_mem]
      intro j hj
      have := (more_ready h0).1 hj
      rw [hr] at this; cases this
    · exact more_wpOp (fun a w hk => any_more f _ a w (getD_set_true h0) hk) (h.2 j ((more_ready h0).2 hj))
theorem any_loose (hl : looseB ops = true) (hn : n ≠ 0) {F f : Nat} (hF : F = f + 1) {a : Act} {w : World} (h : wpAny P .any (waitMore ops n) (onN Q) F (Array.replicate ops.size false) a w) : wpAny P .any ops (onN Q) F (Array.replicate ops.size false) a w := by
  subst hF
  unfold looseB at hl
  split at hl
  · rename_i o0 h0
    simp only [Bool.and_eq_true] at hl
    obtain ⟨⟨⟨⟨hmv, hg⟩, haf⟩, hsel⟩, hall⟩ := hl
    obtain ⟨x, hx⟩ : ∃ x, o0.op = .move x := by
      cases ho : o0.op <;> rw [ho] at hmv <;> simp at hmv
      exact ⟨_, rfl⟩
    have hg0 : o0.guard = none := by simpa using hg
    have haf0 : o0.after = #[] := by simpa using haf
    have hsz : 0 < ops.size := (Array.getElem?_eq_some_iff.1 h0).1
    have hr0 : 0 ∈ Region.ready .any ops (Array.replicate ops.size false) := by
      rw [mem_ready]
      refine ⟨by simp [Array.getD, hsz], o0, h0, fun e he => ?_⟩
      rw [haf0] at he; simp at he
    have hr0' : 0 ∈ Region.ready .any (waitMore ops n) (Array.replicate ops.size false) := by
      rw [mem_ready]
      refine ⟨by simp [Array.getD, hsz], o0, by rw [more_get, if_neg hn]; exact h0, fun e he => ?_⟩
      rw [haf0] at he; simp at he
    have hw0 : ∀ t, Region.wanted o0 t = true := fun t => by unfold Region.wanted; rw [hg0]
    have hy : Yields P ops o0 (a.eval x) a := .inl ⟨hw0 _, fun w => by simp [execOp, hx, Sem.run_pure]⟩
    have h2 := h.2 0 hr0'
    have h3 : wpAny P .any (waitMore ops n) (onN Q) f ((Array.replicate ops.size false).setIfInBounds 0 true) (a.put o0.dst (a.eval x)) w := by
      unfold wpOp at h2
      rw [more_get, if_neg hn, h0] at h2
      simp only [hw0, if_true] at h2
      rcases h2 with h2 | ⟨_, h2⟩
      · unfold Oper.wp at h2
        rw [show (execOp a.eval o0).run P w = .ok (.value (a.eval x)) w by simp [execOp, hx, Sem.run_pure]] at h2
        exact h2
      · exact (onN_out h2).elim
    have h4 := any_more f _ _ _ (by simp [Array.getD, hsz]) h3
    refine wpAny_first h0 (Region.noSelect_spec hsel) (fun c a w h => h) f _ a w (fun j oj hj hj0 _ hnot => ?_) hr0 hy h4
    have hjs := (Array.getElem?_eq_some_iff.1 hj).1
    have h5 := List.all_eq_true.1 hall j (List.mem_range.2 hjs)
    simp only [hj, Bool.or_eq_true, beq_iff_eq] at h5
    rcases h5 with h5 | h5 | h5
    · exact absurd h5 hj0
    · obtain ⟨e, he, hb⟩ := Array.any_eq_true'.1 h5
      simp only [Bool.and_eq_true, beq_iff_eq] at hb
      exact absurd hb.2 (hnot e he hb.1)
    · exact h5
  · cases hl
theorem more_list {Q : Exit → Act → World → Prop} : ∀ (l l' : List Oper), l'.length = l.length → (∀ (i : Nat) (o : Oper), l[i]? = some o → ∃ af : Array Edge, l'[i]? = some ({ o with after := af } : Oper)) → ∀ a w, wpList P ops Q l a w → wpList P (waitMore ops n) Q l' a w
  | [], [], _, _, a, w, h => h
  | o :: l, o' :: l', hlen, hsame, a, w, h => by
    obtain ⟨af, h0⟩ := hsame 0 o rfl
    simp only [List.getElem?_cons_zero, Option.some.injEq] at h0
    subst h0
    have ih := more_list (Q := Q) l l' (by simpa using hlen) (fun i o ho => by have := hsame (i + 1) o (by simpa using ho); simpa using this)
    unfold wpList at h ⊢
    rw [more_yielded]
    rw [show Region.wanted ({ o with after := af } : Oper) (yielded ops a.tmps) = Region.wanted o (yielded ops a.tmps) from rfl]
    split
    · rename_i hw
      simp only [hw, if_true] at h
      rcases h with h | h
      · exact .inl (Oper.wp_mono (fun a w hk => ih a w hk) h)
      · exact .inr h
    · rename_i hw
      simp only [hw] at h
      exact ih _ _ h
  | [], _ :: _, hlen, _, a, w, h => by simp at hlen
  | _ :: _, [], hlen, _, a, w, h => by simp at hlen
theorem fm_modify : ∀ (l : List Oper) (n : Nat), (l.modify n (fun o => { o with after := o.after.push ⟨0, .phase⟩ })).filterMap (·.dst) = l.filterMap (·.dst)
  | [], n => by simp
  | o :: l, 0 => by rw [List.modify_zero_cons, List.filterMap_cons, List.filterMap_cons]
  | o :: l, n + 1 => by rw [List.modify_succ_cons, List.filterMap_cons, List.filterMap_cons, fm_modify l n]
theorem more_dsts : dstsOf (waitMore ops n) = dstsOf ops := by
  unfold dstsOf waitMore
  rw [Array.toList_modify]
  exact fm_modify _ _
theorem wp_region_loose_tail {id : Nat} {a : Act} {w : World} (n : Nat) (L : List Fact) (hl : looseB ops = true) (h0 : decide (n ≠ 0) = true) (hm : P.follows .mixedOrders = true) (hA : acycB (waitMore ops n) = true) (hD : dstsB (waitMore ops n) a.tmps.size = true)
    (hn : decide (n < ops.size) = true) (hs : Region.sinkB .any (waitMore ops n) n = true) (hc : Region.chainB .any (waitMore ops n) n = true) (hq : Region.seqB .any (waitMore ops n) (ops.size - n) n (Array.replicate n true ++ Array.replicate (ops.size - n) false) = true)
    (hstep : RSteps (fun k o => ∀ b w', RAt ops (factsOf L) a w k b w' → (∀ t, t ∉ dstsOf (ops.toList.take n).toArray → b.tmps.getD t undef = a.tmps.getD t undef) → RGood P ops (factsOf L) (onN Q) k o b w') 0 (ops.toList.take n))
    (hend : ∀ b w', Ext w w' → b.defers = a.defers → b.tmps.size = a.tmps.size → (∀ t, t ∉ dstsOf (ops.toList.take n).toArray → b.tmps.getD t undef = a.tmps.getD t undef) →
      (∀ j o d, j < n → ops[j]? = some o → o.dst = some d → factsOf L j (b.tmps.getD d undef) w') → wpList P ops (onN Q) (ops.toList.drop n) b w') : (Code.region id ops true).wp P Q a w := by
  have hn' := of_decide_eq_true hn
  have h0' := of_decide_eq_true h0
  have hnm : n < (waitMore ops n).size := by rw [more_size]; exact hn'
  have htake : (waitMore ops n).toList.take n = ops.toList.take n := by
    apply List.ext_getElem?
    intro i
    rw [List.getElem?_take, List.getElem?_take]
    by_cases hi : i < n
    · rw [if_pos hi, if_pos hi]
      have := more_get (ops := ops) (n := n) i
      rw [if_neg (by omega)] at this
      simpa using this
    · rw [if_neg hi, if_neg hi]
  have hget : ∀ i, i < n → (waitMore ops n)[i]? = ops[i]? := fun i hi => by rw [more_get, if_neg (by omega)]
  have hdep : ∀ i j, i < n → depB (waitMore ops n) i j = depB ops i j := fun i j hi => by unfold depB; rw [hget i hi]
  refine wp_region_any hm (any_onN _ _ _ _ ?_)
  obtain ⟨f, hf⟩ : ∃ f, ops.size = f + 1 := ⟨ops.size - 1, by omega⟩
  have key := wpAny_facts_tail (P := P) (ops := waitMore ops n) (Φ := factsOf L) (Q := onN Q) (W := w) (a := a) hA hD hnm hs hc (by rw [more_size]; exact hq) (fun i v w w' h hx => Fact.stays _ v w w' h hx) (fun i o hi ho b w' h hE => by
      rw [hget i hi] at ho
      have h3 := RSteps.get 0 (ops.toList.take n) hstep i o (by rw [List.getElem?_take, if_pos hi]; simpa using ho) b w'
      rw [Nat.zero_add] at h3
      rw [htake] at hE
      have h4 := h3 ⟨h.ext, h.defers, h.size, by have := h.else_; rw [more_dsts] at this; exact this, fun j o' d hd hj ho' => by
        have hjn : j < n := by
          have hj2 : j < n := by
            apply Nat.lt_of_not_ge
            intro hge
            have h7 : acycB (waitMore ops n) = true := hA
            unfold depB at hd
            rw [ho] at hd
            obtain ⟨e, he, hb⟩ := Array.any_eq_true'.1 hd
            simp only [Bool.and_eq_true, beq_iff_eq] at hb
            unfold acycB at h7
            have h8 := List.all_eq_true.1 h7 i (List.mem_range.2 (by rw [more_size]; omega))
            rw [hget i hi, ho] at h8
            have h9 := Array.all_eq_true_iff_forall_mem.1 h8 e he
            simp only [hb.1, Bool.not_true, Bool.false_or, decide_eq_true_eq] at h9
            omega
          exact hj2
        exact h.dep j o' d (by rw [hdep i j hi]; exact hd) (by rw [hget j hjn]; exact hj) ho'⟩ hE
      unfold RGood at h4 ⊢
      rw [more_yielded]
      exact h4) (fun b w' k1 k2 k3 _ k5 k6 => by
      rw [htake] at k6
      refine more_list (ops.toList.drop n) _ (by simp [more_size]) (fun i o ho => ?_) _ _ (hend b w' k1 k2 k3 k6 (fun j o d hj ho hd => k5 j o d hj (by rw [hget j hj]; exact ho) hd))
      rw [List.getElem?_drop] at ho ⊢
      have hg := more_get (ops := ops) (n := n) (n + i)
      have ho2 : ops[n + i]? = some o := by simpa using ho
      rw [ho2] at hg
      by_cases hi : n = n + i
      · rw [if_pos hi] at hg; exact ⟨_, by simpa using hg⟩
      · rw [if_neg hi] at hg; exact ⟨o.after, by simpa using hg⟩) n (Array.replicate ops.size false) a { w with drawn := w.drawn + 1 } ⟨(Ext.refl w).drew, rfl, rfl, by simp [more_size], fun _ _ => rfl, fun j o d ho hl _ => by
        rw [getD_replicate_false] at hl; cases hl⟩ (fun _ _ => rfl)
      ⟨by simp [more_size], fun j oj _ hl => (by rw [getD_replicate_false] at hl; cases hl), fun t _ ht => getD_in (by simp; rw [more_size] at ht; exact ht) (getD_replicate_false _ _)⟩ (by
        rw [Array.toList_replicate, List.take_replicate, cntF_rep]; omega)
  rw [more_size, show n + (ops.size - n) = ops.size by omega] at key
  exact any_loose (Q := Q) (f := f) hl h0' hf key
end
end Go.Proofs.YtajelkkiijdegaaGreat
