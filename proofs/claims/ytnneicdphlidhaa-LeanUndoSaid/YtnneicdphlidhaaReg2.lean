/-
  A helper of ours: no claim of its own. As XReg, where some operations also turn objects: what is known of the objects hangs on which of those operations are done.
-/
import Derived.Test.YtnneicdphlidhaaReg
set_option linter.unusedVariables false
set_option linter.unusedSimpArgs false
namespace Go.Proofs.Ytnneicdphlidhaa
open Go.RowKit

section
variable {P : Program} {ops : Array Oper} {Φ : Nat → Value → World → Prop} {Q : Exit → Act → World → Prop} {a : Act} {W : World} {G : World → World → Prop} {J : (Nat → Bool) → World → Prop} {K : List Nat}

def done (Lf : Nat → Bool) (i : Nat) : Nat → Bool := fun j => if j = i then true else Lf j
structure RAt2 (ops : Array Oper) (Φ : Nat → Value → World → Prop) (G : World → World → Prop) (J : (Nat → Bool) → World → Prop) (a : Act) (W : World) (i : Nat) (Lf : Nat → Bool) (b : Act) (w : World) : Prop where
  ext : G W w
  defers : b.defers = a.defers
  size : b.tmps.size = a.tmps.size
  else_ : ∀ t, t ∉ dstsOf ops → b.tmps.getD t undef = a.tmps.getD t undef
  dep : ∀ j o d, depB ops i j = true → ops[j]? = some o → o.dst = some d → Φ j (b.tmps.getD d undef) w
  deps : ∀ j, depB ops i j = true → Lf j = true
  fresh : Lf i = false
  obj : J Lf w
/-- An operation that turns an object. -/
def RGoodM (P : Program) (ops : Array Oper) (Φ : Nat → Value → World → Prop) (G : World → World → Prop) (J : (Nat → Bool) → World → Prop) (Q : Exit → Act → World → Prop) (i : Nat) (o : Oper) (Lf : Nat → Bool) (b : Act) (w : World) : Prop :=
  (Region.wanted o (yielded ops b.tmps) = true ∧ o.wp P b w (fun b' w' => ∃ v, b' = b.put o.dst v ∧ Φ i v w' ∧ G w w' ∧ J (done Lf i) w') Q) ∨ (Region.wanted o (yielded ops b.tmps) = false ∧ Φ i undef w ∧ J (done Lf i) w)

structure RInv2 (ops : Array Oper) (Φ : Nat → Value → World → Prop) (G : World → World → Prop) (J : (Nat → Bool) → World → Prop) (a : Act) (W : World) (listed : Array Bool) (b : Act) (w : World) : Prop where
  ext : G W w
  defers : b.defers = a.defers
  size : b.tmps.size = a.tmps.size
  len : listed.size = ops.size
  else_ : ∀ t, t ∉ dstsOf ops → b.tmps.getD t undef = a.tmps.getD t undef
  fact : ∀ j o d, ops[j]? = some o → listed.getD j false = true → o.dst = some d → Φ j (b.tmps.getD d undef) w
  obj : J (fun j => listed.getD j false) w

theorem wpAny_facts2 (hA : acycB ops = true) (hD : dstsB ops a.tmps.size = true) (hGt : ∀ x y z, G x y → G y z → G x z) (hst : ∀ i v w w', Φ i v w → G w w' → Φ i v w')
    (hstep : ∀ i o, ops[i]? = some o → ∀ b w Lf, RAt2 ops Φ G J a W i Lf b w → RGoodM P ops Φ G J Q i o Lf b w)
    (hend : ∀ b w, G W w → b.defers = a.defers → b.tmps.size = a.tmps.size → (∀ t, t ∉ dstsOf ops → b.tmps.getD t undef = a.tmps.getD t undef) →
      (∀ j o d, ops[j]? = some o → o.dst = some d → Φ j (b.tmps.getD d undef) w) → (∀ Lf, (∀ j, j < ops.size → Lf j = true) → (∀ j, ops.size ≤ j → Lf j = false) → J Lf w) → Q .normal b w) :
    ∀ (f : Nat) (listed : Array Bool) (b : Act) (w : World), RInv2 ops Φ G J a W listed b w → cntF listed.toList ≤ f → wpAny P .any ops Q f listed b w := by
  have fin : ∀ (listed : Array Bool) (b : Act) (w : World), RInv2 ops Φ G J a W listed b w → (∀ j, j < ops.size → listed.getD j false = true) → Q .normal b w := by
    intro listed b w I hl
    refine hend b w I.ext I.defers I.size I.else_ (fun j o d ho hd => I.fact j o d ho (hl j (Array.getElem?_eq_some_iff.1 ho).1) hd) fun Lf h1 h2 => ?_
    have e : Lf = fun j => listed.getD j false := by
      funext j
      rcases Nat.lt_or_ge j ops.size with h | h
      · rw [h1 j h, hl j h]
      · rw [h2 j h]; have := I.len; simp [Array.getD, show ¬ j < listed.size by omega]
    rw [e]; exact I.obj
  intro f
  induction f with
  | zero =>
    intro listed b w I hc
    have hl : ∀ j, j < ops.size → listed.getD j false = true := fun j hj => cntF_zero listed.toList j _ (by omega) (by simpa using getD_some (by have := I.len; omega))
    refine ⟨?_, fin _ _ _ I hl⟩
    cases hr : Region.ready .any ops listed with
    | nil => rfl
    | cons j r =>
      have := (mem_ready.1 (show j ∈ Region.ready .any ops listed by rw [hr]; simp))
      obtain ⟨h1, o, ho, _⟩ := this
      have hj := (Array.getElem?_eq_some_iff.1 ho).1
      have h2 := hl j hj
      have hjl : j < listed.size := by have := I.len; omega
      have e1 := getD_some (l := listed) (d := false) hjl
      have e2 := getD_some (l := listed) (d := true) hjl
      rw [e1] at e2; have := Option.some.inj e2; rw [h1, h2] at this; cases this
  | succ f ih =>
    intro listed b w I hc
    refine ⟨fun hr => fin _ _ _ I (all_listed hA I.len hr), fun i hi => ?_⟩
    obtain ⟨h1, o, ho, hdep⟩ := mem_ready.1 hi
    have hj := (Array.getElem?_eq_some_iff.1 ho).1
    have hjl : i < listed.size := by have := I.len; omega
    have hdl : ∀ j, depB ops i j = true → listed.getD j false = true := by
      intro j hd
      unfold depB at hd; rw [ho] at hd
      obtain ⟨k, hk, he⟩ := Array.any_eq_true.1 hd
      simp only [Bool.and_eq_true, beq_iff_eq] at he
      have := hdep _ (Array.getElem_mem hk) he.1
      rwa [he.2] at this
    have e12 : listed.getD i false = false := by
      have e1 := getD_some (l := listed) (d := false) hjl
      have e2 := getD_some (l := listed) (d := true) hjl
      rw [e1] at e2; rw [Option.some.inj e2]; exact h1
    have hat : RAt2 ops Φ G J a W i (fun j => listed.getD j false) b w := ⟨I.ext, I.defers, I.size, I.else_, fun j p d hd hp hpd => I.fact j p d hp (hdl j hd) hpd, hdl, e12, I.obj⟩
    have hget : (listed.toList)[i]? = some false := by
      have e2 := getD_some (l := listed) (d := true) hjl
      rw [h1] at e2; simpa using e2
    have hcnt : cntF (listed.setIfInBounds i true).toList ≤ f := by
      have := cntF_set listed.toList i hget
      simp only [Array.toList_setIfInBounds]; omega
    have hset : (fun j => (listed.setIfInBounds i true).getD j false) = done (fun j => listed.getD j false) i := by
      funext j
      unfold done
      show (listed.setIfInBounds i true).getD j false = if j = i then true else listed.getD j false
      rw [Array.getD_eq_getD_getElem?, Array.getElem?_setIfInBounds]
      by_cases hij : i = j
      · subst hij; simp [hjl]
      · rw [if_neg hij, if_neg (Ne.symm hij), Array.getD_eq_getD_getElem?]
    have go : ∀ (v : Value) (w' : World), Φ i v w' → (G w w' ∨ w = w') → J (done (fun j => listed.getD j false) i) w' → wpAny P .any ops Q f (listed.setIfInBounds i true) (b.put o.dst v) w' := by
      intro v w' hv hx hJ
      have hG : G W w' := by
        rcases hx with hx | rfl
        · exact hGt _ _ _ I.ext hx
        · exact I.ext
      have hS : ∀ j u, Φ j u w → Φ j u w' := by
        intro j u hu
        rcases hx with hx | rfl
        · exact hst _ _ _ _ hu hx
        · exact hu
      refine ih _ _ _ ⟨hG, put_defers.trans I.defers, put_size.trans I.size, by simpa using I.len, fun t ht => ?_, fun j p d hp hl hd => ?_, by rw [hset]; exact hJ⟩ hcnt
      · rw [put_other, I.else_ t ht]
        intro e
        exact ht (List.mem_filterMap.2 ⟨o, by rw [Array.mem_toList_iff]; exact Array.mem_of_getElem? ho, e⟩)
      · have hds : d < b.tmps.size := by
          rw [I.size]
          have := List.all_eq_true.1 (Bool.and_eq_true_iff.1 hD).1 d (List.mem_filterMap.2 ⟨p, by rw [Array.mem_toList_iff]; exact Array.mem_of_getElem? hp, hd⟩)
          simpa using this
        by_cases hij : i = j
        · subst hij
          rw [ho] at hp; cases hp
          rw [hd, put_same hds]; exact hv
        · have hl' : listed.getD j false = true := by
            rw [Array.getD_eq_getD_getElem?, Array.getElem?_setIfInBounds, if_neg hij] at hl
            rw [Array.getD_eq_getD_getElem?]; exact hl
          have hpj := (Array.getElem?_eq_some_iff.1 hp).1
          have hne : o.dst ≠ some d := by
            intro e
            have h2 := List.all_eq_true.1 (List.all_eq_true.1 (Bool.and_eq_true_iff.1 hD).2 i (List.mem_range.2 hj)) j (List.mem_range.2 hpj)
            simp [hij, ho, hp, e, hd] at h2
          rw [put_other hne]
          exact hS _ _ (I.fact j p d hp hl' hd)
    unfold wpOp
    rcases hstep i o ho b w _ hat with ⟨hw, hwp⟩ | ⟨hw, hv, hJ⟩
    · simp only [ho, hw, if_true]
      left
      refine Oper.wp_mono ?_ hwp
      rintro b' w' ⟨v, rfl, hv, hx, hJ⟩
      exact go v w' hv (.inl hx) hJ
    · simp only [ho, hw]
      exact go undef w hv (.inr rfl) hJ

/-- An operation that turns no object. -/
theorem goodM_of {i : Nat} {o : Oper} {b : Act} {w : World} {Lf : Nat → Bool} (hGe : ∀ x y, Ext x y → G x y) (hJe : ∀ L x y, J L x → Ext x y → J L y) (hJk : ∀ L L' x, (∀ k, k ∈ K → L k = L' k) → J L x → J L' x)
    (hi : i ∉ K) (hJ : J Lf w) (h : RGood P ops Φ Q i o b w) : RGoodM P ops Φ G J Q i o Lf b w := by
  have key : ∀ x, J Lf x → J (done Lf i) x := fun x hx => hJk Lf _ x (fun k hk => by unfold done; rw [if_neg (fun e => by subst e; exact hi hk)]) hx
  rcases h with ⟨hw, hwp⟩ | ⟨hw, hv⟩
  · exact .inl ⟨hw, Oper.wp_mono (fun b' w' ⟨v, e, h1, h2⟩ => ⟨v, e, h1, hGe _ _ h2, key _ (hJe _ _ _ hJ h2)⟩) hwp⟩
  · exact .inr ⟨hw, hv, key _ hJ⟩

/-- Facts that stay where all but the blocks of S stay. -/
inductive FactS (S : List Nat) where
  | is (v : Value)
  | st (p : Value → World → Prop) (h : ∀ v w w', p v w → Fr S w w' → p v w')
  | any
def FactS.holds {S : List Nat} : FactS S → Value → World → Prop
  | .is u, v, _ => v = u
  | .st p _, v, w => p v w
  | .any, _, _ => True
theorem FactS.stays {S : List Nat} (f : FactS S) (v : Value) (w w' : World) (h : f.holds v w) (hx : Fr S w w') : f.holds v w' := by
  cases f with
  | is u => exact h
  | st p hp => exact hp v w w' h hx
  | any => trivial
def factsS {S : List Nat} (L : List (FactS S)) (i : Nat) (v : Value) (w : World) : Prop := (L.getD i .any).holds v w
def FactS.bytes (S : List Nat) (l : List UInt8) : FactS S := .st (fun v w => By w S v l) (fun _ _ _ h k => Sl.fr h k (fun _ hb => hb))

theorem wp_region_objs {id : Nat} {w : World} {S : List Nat} (L : List (FactS S)) (J : (Nat → Bool) → World → Prop) (K : List Nat) (hm : P.follows .mixedOrders = true) (hA : acycB ops = true) (hD : dstsB ops a.tmps.size = true)
    (hJe : ∀ L x y, J L x → Ext x y → J L y) (hJk : ∀ L L' x, (∀ k, k ∈ K → L k = L' k) → J L x → J L' x) (hJ0 : J (fun _ => false) w)
    (hstep : RSteps (fun k o => ∀ b w' Lf, RAt2 ops (factsS L) (Fr S) J a w k Lf b w' → (k ∉ K ∧ RGood P ops (factsS L) Q k o b w') ∨ RGoodM P ops (factsS L) (Fr S) J Q k o Lf b w') 0 ops.toList)
    (hend : ∀ b w', Fr S w w' → b.defers = a.defers → b.tmps.size = a.tmps.size → (∀ t, t ∉ dstsOf ops → b.tmps.getD t undef = a.tmps.getD t undef) →
      (∀ j o d, ops[j]? = some o → o.dst = some d → factsS L j (b.tmps.getD d undef) w') → (∀ Lf, (∀ j, j < ops.size → Lf j = true) → (∀ j, ops.size ≤ j → Lf j = false) → J Lf w') → Q .normal b w') : (Code.region id ops true).wp P Q a w := by
  refine wp_region_any hm (wpAny_facts2 (W := w) (G := Fr S) (J := J) (Φ := factsS L) hA hD (fun _ _ _ h k => h.trans k) (fun i v w w' h hx => FactS.stays _ v w w' h hx) (fun i o ho b w' Lf h => ?_) hend _ _ _ _ ⟨(Fr.refl S w).drew, rfl, rfl, by simp, fun _ _ => rfl, fun j o d ho hl _ => ?_, ?_⟩ (by rw [Array.toList_replicate, cntF_rep]; exact Nat.le_refl _))
  · have := RSteps.get 0 ops.toList hstep i o (by simpa using ho) b w' Lf
    rw [Nat.zero_add] at this
    rcases this h with ⟨h1, h2⟩ | h2
    · exact goodM_of (K := K) (fun _ _ h => Fr.of_ext h) hJe hJk h1 h.obj h2
    · exact h2
  · rw [Array.getD_eq_getD_getElem?] at hl
    by_cases hj : j < ops.size <;> simp [hj] at hl
  · have e : (fun j => (Array.replicate ops.size false).getD j false) = fun _ => false := by
      funext j; rw [Array.getD_eq_getD_getElem?]
      by_cases hj : j < ops.size <;> simp [hj]
    rw [e]
    exact hJe _ _ _ hJ0 (Ext.refl w).drew

theorem goodM_call {i : Nat} {o : Oper} {b : Act} {w : World} {Lf : Nat → Bool} {f : FuncId} {xs : Array Operand} {ats : Array TypeId} (hg : Region.wanted o (yielded ops b.tmps) = true) (ho : o.op = .call { callee := .value (.func f), args := xs, argTypes := ats })
    (he : ∀ args w, (callFunc f args).run P w = .ok (.enter f args) w) (hc : Calls P f (xs.map b.eval) w fun e w' => ∃ v, e = .returned v ∧ Φ i v w' ∧ G w w' ∧ J (done Lf i) w') : RGoodM P ops Φ G J Q i o Lf b w := by
  refine .inl ⟨hg, ?_⟩
  unfold Oper.wp
  have : (execOp b.eval o).run P w = .ok (.enter f (xs.map b.eval)) w := by
    simp [execOp, ho, resolve, Act.eval, Deferred.ofValue, invoke, he, go_sem]
  rw [this]
  exact hc.mono fun e w' ⟨v, he, h1, h2, h3⟩ => by subst he; exact ⟨v, rfl, h1, h2, h3⟩
end
end Go.Proofs.Ytnneicdphlidhaa
