/-
  A helper of ours: no claim of its own. A region that draws its order and whose operations make memory: if each operation, in whatever grown world, leaves a value of which a fact holds that further growth does not end, then behind the region all the facts hold, whatever the order was.
-/
import Derived.Test.YtljkneajdndgjabGreatEvaC
import Derived.Test.YtljkneajdndgjabGreatMem
import Derived.Orders
set_option linter.unusedVariables false
set_option linter.unusedSimpArgs false
namespace Go.Proofs.YtljkneajdndgjabGreat
open Go.RowKit
theorem bne_dec (z : Int) : (z != 0) = decide (z ≠ 0) := by by_cases h : z = 0 <;> simp [h]
theorem ofTwo_c (c : Int) (hc : tkI c = 2) (a b : Vl) (ha : fine a) (hb : fine b) (w : World) : Calls Tryz.prog 164 #[.int .i64 c, rv a, rv b] w fun e w' => e = endX (ofTwo c a b) ∧ Ext w w' := by
  have h720 := tkI_iff2.1 hc
  rcases fine_cases ha with ⟨n, rfl, hn⟩ | ⟨s, rfl, hs⟩ <;> rcases fine_cases hb with ⟨m, rfl, hm⟩ | ⟨t, rfl, ht⟩
  · skip
    by_cases h12 : c = 12
    · subst h12
      exact two_catN n (rN m) w
    by_cases hcm : 13 ≤ c ∧ c ≤ 18
    · have c6 : c = 13 ∨ c = 14 ∨ c = 15 ∨ c = 16 ∨ c = 17 ∨ c = 18 := by omega
      clear hcm h12 h720 hc
      rcases c6 with rfl | rfl | rfl | rfl | rfl | rfl
      · exact two_c13nn n m _ _ rfl rfl w
      · exact two_c14nn n m _ _ rfl (bne_dec _) w
      · exact two_c15nn n m _ _ rfl rfl w
      · exact two_c16nn n m _ _ rfl rfl w
      · exact two_c17nn n m _ _ rfl rfl w
      · exact two_c18nn n m _ _ rfl rfl w
    · have hr : (7 ≤ c ∧ c ≤ 11) ∨ c = 19 ∨ c = 20 := by omega
      have e : ofTwo c (1, n, ⟨#[]⟩) (1, m, ⟨#[]⟩) = ofNums c n m := by unfold ofTwo; rw [if_neg h12, if_neg hcm, if_pos ⟨rfl, rfl⟩]
      rw [e]
      have hN := fun w => ofNumbers_c c n m hr hn hm w
      cases hX : ofNums c n m with
      | ok u => rw [hX] at hN; exact two_num c hr n m (rv u) hN w
      | error z => rw [hX] at hN; exact two_numE c hr n m z hN w
  · skip
    by_cases h12 : c = 12
    · subst h12
      exact two_catN n (rT t) w
    by_cases hcm : 13 ≤ c ∧ c ≤ 18
    · have c6 : c = 13 ∨ c = 14 ∨ c = 15 ∨ c = 16 ∨ c = 17 ∨ c = 18 := by omega
      clear hcm h12 h720 hc
      rcases c6 with rfl | rfl | rfl | rfl | rfl | rfl
      · exact two_c13nt n t w
      · exact two_c14nt n t w
      · exact two_c15nt n t w
      · exact two_c16nt n t w
      · exact two_c17nt n t w
      · exact two_c18nt n t w
    · have hr : (7 ≤ c ∧ c ≤ 11) ∨ c = 19 ∨ c = 20 := by omega
      have e : ofTwo c (1, n, ⟨#[]⟩) (2, 0, t) = .error 12 := by unfold ofTwo; rw [if_neg h12, if_neg hcm, if_neg (fun h => by cases h.2)]
      rw [e]
      exact two_numNT c hr n t w
  · skip
    by_cases h12 : c = 12
    · subst h12
      exact two_catTN s m w
    by_cases hcm : 13 ≤ c ∧ c ≤ 18
    · have c6 : c = 13 ∨ c = 14 ∨ c = 15 ∨ c = 16 ∨ c = 17 ∨ c = 18 := by omega
      clear hcm h12 h720 hc
      rcases c6 with rfl | rfl | rfl | rfl | rfl | rfl
      · exact two_c13tn s m hs w
      · exact two_c14tn s m hs w
      · exact two_c15tn s m hs w
      · exact two_c16tn s m hs w
      · exact two_c17tn s m hs w
      · exact two_c18tn s m hs w
    · have hr : (7 ≤ c ∧ c ≤ 11) ∨ c = 19 ∨ c = 20 := by omega
      have e : ofTwo c (2, 0, s) (1, m, ⟨#[]⟩) = .error 12 := by unfold ofTwo; rw [if_neg h12, if_neg hcm, if_neg (fun h => by cases h.1)]
      rw [e]
      exact two_numT c hr s (rN m) w
  · skip
    by_cases h12 : c = 12
    · subst h12
      by_cases hl : 64 < s.size + t.size
      · have e : ofTwo 12 (2, 0, s) (2, 0, t) = .error 6 := by unfold ofTwo; rw [if_pos rfl, if_pos ⟨rfl, rfl⟩, if_pos hl]
        rw [e]
        exact two_catE s t hs ht hl w
      · have e : ofTwo 12 (2, 0, s) (2, 0, t) = .ok (2, 0, s ++ t) := by unfold ofTwo; rw [if_pos rfl, if_pos ⟨rfl, rfl⟩, if_neg hl]
        rw [e]
        exact two_cat s t hs ht (by omega) w
    by_cases hcm : 13 ≤ c ∧ c ≤ 18
    · have c6 : c = 13 ∨ c = 14 ∨ c = 15 ∨ c = 16 ∨ c = 17 ∨ c = 18 := by omega
      clear hcm h12 h720 hc
      rcases c6 with rfl | rfl | rfl | rfl | rfl | rfl
      · exact two_c13tt s t hs ht _ _ rfl rfl w
      · exact two_c14tt s t hs ht _ _ rfl (bne_dec _) w
      · exact two_c15tt s t hs ht _ _ rfl rfl w
      · exact two_c16tt s t hs ht _ _ rfl rfl w
      · exact two_c17tt s t hs ht _ _ rfl rfl w
      · exact two_c18tt s t hs ht _ _ rfl rfl w
    · have hr : (7 ≤ c ∧ c ≤ 11) ∨ c = 19 ∨ c = 20 := by omega
      have e : ofTwo c (2, 0, s) (2, 0, t) = .error 12 := by unfold ofTwo; rw [if_neg h12, if_neg hcm, if_neg (fun h => by cases h.1)]
      rw [e]
      exact two_numT c hr s (rT t) w
end Go.Proofs.YtljkneajdndgjabGreat
set_option linter.unusedVariables false
set_option linter.unusedSimpArgs false
namespace Go.Proofs.YtljkneajdndgjabGreat
open Go.RowKit

/-- Each operation waits for earlier ones alone. -/
def acycB (ops : Array Oper) : Bool := (List.range ops.size).all fun i => match ops[i]? with
  | some o => o.after.all fun e => !Region.binds .any e || decide (e.on < i)
  | none => true
def dstsOf (ops : Array Oper) : List Tmp := ops.toList.filterMap (·.dst)
/-- No two operations write one slot, and all slots are there. -/
def dstsB (ops : Array Oper) (n : Nat) : Bool := (dstsOf ops).all (fun d => decide (d < n)) && (List.range ops.size).all fun i => (List.range ops.size).all fun j =>
  i == j || match ops[i]?, ops[j]? with
    | some o, some p => (match o.dst, p.dst with | some d, some c => d != c | _, _ => true)
    | _, _ => true
def depB (ops : Array Oper) (i j : Nat) : Bool := match ops[i]? with
  | some o => o.after.any fun e => Region.binds .any e && e.on == j
  | none => false

def cntF : List Bool → Nat
  | [] => 0
  | b :: r => (if b then 0 else 1) + cntF r
theorem cntF_set : ∀ (l : List Bool) (i : Nat), l[i]? = some false → cntF (l.set i true) + 1 = cntF l
  | b :: r, 0, h => by simp at h; subst h; simp [cntF]; omega
  | b :: r, i + 1, h => by have := cntF_set r i (by simpa using h); simp only [List.set_cons_succ, cntF]; omega
theorem cntF_zero : ∀ (l : List Bool) (i : Nat) (b : Bool), cntF l = 0 → l[i]? = some b → b = true
  | c :: r, 0, b, h, hb => by simp at hb; subst hb; simp [cntF] at h; cases c <;> simp_all
  | c :: r, i + 1, b, h, hb => cntF_zero r i b (by simp [cntF] at h; omega) (by simpa using hb)
theorem cntF_rep (n : Nat) : cntF (List.replicate n false) = n := by induction n with
  | zero => rfl
  | succ n ih => simp [List.replicate_succ, cntF, ih]; omega

theorem getD_some {l : Array Bool} {i : Nat} {d : Bool} (h : i < l.size) : l[i]? = some (l.getD i d) := by
  simp [Array.getD, h]

section
variable {P : Program} {ops : Array Oper} {Φ : Nat → Value → World → Prop} {Q : Exit → Act → World → Prop} {a : Act} {W : World}

/-- What holds of the frame b and the world w behind the listed operations. -/
structure RInv (ops : Array Oper) (Φ : Nat → Value → World → Prop) (a : Act) (W : World) (listed : Array Bool) (b : Act) (w : World) : Prop where
  ext : Ext W w
  defers : b.defers = a.defers
  size : b.tmps.size = a.tmps.size
  len : listed.size = ops.size
  else_ : ∀ t, t ∉ dstsOf ops → b.tmps.getD t undef = a.tmps.getD t undef
  fact : ∀ j o d, ops[j]? = some o → listed.getD j false = true → o.dst = some d → Φ j (b.tmps.getD d undef) w

/-- What an operation finds. -/
structure RAt (ops : Array Oper) (Φ : Nat → Value → World → Prop) (a : Act) (W : World) (i : Nat) (b : Act) (w : World) : Prop where
  ext : Ext W w
  defers : b.defers = a.defers
  size : b.tmps.size = a.tmps.size
  else_ : ∀ t, t ∉ dstsOf ops → b.tmps.getD t undef = a.tmps.getD t undef
  dep : ∀ j o d, depB ops i j = true → ops[j]? = some o → o.dst = some d → Φ j (b.tmps.getD d undef) w

/-- What an operation must do. -/
def RGood (P : Program) (ops : Array Oper) (Φ : Nat → Value → World → Prop) (Q : Exit → Act → World → Prop) (i : Nat) (o : Oper) (b : Act) (w : World) : Prop :=
  (Region.wanted o (yielded ops b.tmps) = true ∧ o.wp P b w (fun b' w' => ∃ v, b' = b.put o.dst v ∧ Φ i v w' ∧ Ext w w') Q) ∨ (Region.wanted o (yielded ops b.tmps) = false ∧ Φ i undef w)

theorem all_listed (hB : acycB ops = true) {listed : Array Bool} (hl : listed.size = ops.size) (hr : Region.ready .any ops listed = []) : ∀ j, j < ops.size → listed.getD j false = true := by
  intro j
  induction j using Nat.strongRecOn with
  | ind j ih =>
    intro hj
    cases h : listed.getD j false with
    | true => rfl
    | false =>
      exfalso
      have hjl : j < listed.size := by omega
      have ho : ops[j]? = some ops[j] := Array.getElem?_eq_getElem hj
      have hacy := List.all_eq_true.1 hB j (List.mem_range.2 hj)
      rw [ho] at hacy
      have : j ∈ Region.ready .any ops listed := mem_ready.2 ⟨by
        have e1 := getD_some (l := listed) (d := false) hjl
        have e2 := getD_some (l := listed) (d := true) hjl
        rw [e1] at e2; rw [← Option.some.inj e2]; exact h, _, ho, fun e he hb => by
        have h2 := Array.all_eq_true_iff_forall_mem.1 hacy e he
        simp [hb] at h2
        exact ih e.on h2 (by omega)⟩
      rw [hr] at this; cases this

theorem put_other {b : Act} {dst : Option Tmp} {v : Value} {t : Nat} (h : dst ≠ some t) : (b.put dst v).tmps.getD t undef = b.tmps.getD t undef := by
  cases dst with
  | none => rfl
  | some d =>
    have : d ≠ t := fun e => h (by rw [e])
    simp [Act.put, Array.getD_eq_getD_getElem?, Array.getElem?_setIfInBounds, this]
theorem put_same {b : Act} {d : Nat} {v : Value} (h : d < b.tmps.size) : (b.put (some d) v).tmps.getD d undef = v := by
  simp [Act.put, Array.getD_eq_getD_getElem?, Array.getElem?_setIfInBounds, h]
theorem put_defers {b : Act} {dst : Option Tmp} {v : Value} : (b.put dst v).defers = b.defers := by cases dst <;> rfl
theorem put_size {b : Act} {dst : Option Tmp} {v : Value} : (b.put dst v).tmps.size = b.tmps.size := by cases dst <;> simp [Act.put]

theorem wpAny_facts (hA : acycB ops = true) (hD : dstsB ops a.tmps.size = true) (hst : ∀ i v w w', Φ i v w → Ext w w' → Φ i v w')
    (hstep : ∀ i o, ops[i]? = some o → ∀ b w, RAt ops Φ a W i b w → RGood P ops Φ Q i o b w)
    (hend : ∀ b w, Ext W w → b.defers = a.defers → b.tmps.size = a.tmps.size → (∀ t, t ∉ dstsOf ops → b.tmps.getD t undef = a.tmps.getD t undef) →
      (∀ j o d, ops[j]? = some o → o.dst = some d → Φ j (b.tmps.getD d undef) w) → Q .normal b w) :
    ∀ (f : Nat) (listed : Array Bool) (b : Act) (w : World), RInv ops Φ a W listed b w → cntF listed.toList ≤ f → wpAny P .any ops Q f listed b w := by
  have fin : ∀ (listed : Array Bool) (b : Act) (w : World), RInv ops Φ a W listed b w → (∀ j, j < ops.size → listed.getD j false = true) → Q .normal b w := by
    intro listed b w I hl
    exact hend b w I.ext I.defers I.size I.else_ fun j o d ho hd => I.fact j o d ho (hl j (Array.getElem?_eq_some_iff.1 ho).1) hd
  intro f
  induction f with
  | zero =>
    intro listed b w I hc
    have hl : ∀ j, j < ops.size → listed.getD j false = true := fun j hj => cntF_zero listed.toList j _ (by omega) (by simpa using getD_some (by have := I.len; omega))
    refine ⟨?_, fin _ _ _ I hl⟩
    cases hr : Region.ready .any ops listed with
    | nil => rfl
    | cons j r =>
      have := (mem_ready.1 (show j ∈ Region.ready .any ops listed by rw [hr]; simp))
      obtain ⟨h1, o, ho, _⟩ := this
      have hj := (Array.getElem?_eq_some_iff.1 ho).1
      have h2 := hl j hj
      have hjl : j < listed.size := by have := I.len; omega
      have e1 := getD_some (l := listed) (d := false) hjl
      have e2 := getD_some (l := listed) (d := true) hjl
      rw [e1] at e2; have := Option.some.inj e2; rw [h1, h2] at this; cases this
  | succ f ih =>
    intro listed b w I hc
    refine ⟨fun hr => fin _ _ _ I (all_listed hA I.len hr), fun i hi => ?_⟩
    obtain ⟨h1, o, ho, hdep⟩ := mem_ready.1 hi
    have hj := (Array.getElem?_eq_some_iff.1 ho).1
    have hjl : i < listed.size := by have := I.len; omega
    have hat : RAt ops Φ a W i b w := ⟨I.ext, I.defers, I.size, I.else_, fun j p d hd hp hpd => I.fact j p d hp (by
      unfold depB at hd; rw [ho] at hd
      obtain ⟨k, hk, he⟩ := Array.any_eq_true.1 hd
      simp only [Bool.and_eq_true, beq_iff_eq] at he
      have := hdep _ (Array.getElem_mem hk) he.1
      rwa [he.2] at this) hpd⟩
    have hget : (listed.toList)[i]? = some false := by
      have e2 := getD_some (l := listed) (d := true) hjl
      rw [h1] at e2; simpa using e2
    have hcnt : cntF (listed.setIfInBounds i true).toList ≤ f := by
      have := cntF_set listed.toList i hget
      simp only [Array.toList_setIfInBounds]; omega
    have go : ∀ (v : Value) (w' : World), Φ i v w' → Ext w w' → wpAny P .any ops Q f (listed.setIfInBounds i true) (b.put o.dst v) w' := by
      intro v w' hv hx
      refine ih _ _ _ ⟨I.ext.trans hx, put_defers.trans I.defers, put_size.trans I.size, by simpa using I.len, fun t ht => ?_, fun j p d hp hl hd => ?_⟩ hcnt
      · rw [put_other, I.else_ t ht]
        intro e
        exact ht (List.mem_filterMap.2 ⟨o, by rw [Array.mem_toList_iff]; exact Array.mem_of_getElem? ho, e⟩)
      · have hds : d < b.tmps.size := by
          rw [I.size]
          have := List.all_eq_true.1 (Bool.and_eq_true_iff.1 hD).1 d (List.mem_filterMap.2 ⟨p, by rw [Array.mem_toList_iff]; exact Array.mem_of_getElem? hp, hd⟩)
          simpa using this
        by_cases hij : i = j
        · subst hij
          rw [ho] at hp; cases hp
          rw [hd, put_same hds]; exact hv
        · have hl' : listed.getD j false = true := by
            rw [Array.getD_eq_getD_getElem?, Array.getElem?_setIfInBounds, if_neg hij] at hl
            rw [Array.getD_eq_getD_getElem?]; exact hl
          have hpj := (Array.getElem?_eq_some_iff.1 hp).1
          have hne : o.dst ≠ some d := by
            intro e
            have h2 := List.all_eq_true.1 (List.all_eq_true.1 (Bool.and_eq_true_iff.1 hD).2 i (List.mem_range.2 hj)) j (List.mem_range.2 hpj)
            simp [hij, ho, hp, e, hd] at h2
          rw [put_other hne]
          exact hst _ _ _ _ (I.fact j p d hp hl' hd) hx
    unfold wpOp
    rcases hstep i o ho b w hat with ⟨hw, hwp⟩ | ⟨hw, hv⟩
    · simp only [ho, hw, if_true]
      left
      refine Oper.wp_mono ?_ hwp
      rintro b' w' ⟨v, rfl, hv, hx⟩
      exact go v w' hv hx
    · simp only [ho, hw]
      exact go undef w hv (Ext.refl w)

theorem wp_region_facts {id : Nat} {w : World} (hm : P.follows .mixedOrders = true) (hA : acycB ops = true) (hD : dstsB ops a.tmps.size = true) (Φ : Nat → Value → World → Prop) (hst : ∀ i v w w', Φ i v w → Ext w w' → Φ i v w')
    (hstep : ∀ i o, ops[i]? = some o → ∀ b w', RAt ops Φ a w i b w' → RGood P ops Φ Q i o b w')
    (hend : ∀ b w', Ext w w' → b.defers = a.defers → b.tmps.size = a.tmps.size → (∀ t, t ∉ dstsOf ops → b.tmps.getD t undef = a.tmps.getD t undef) →
      (∀ j o d, ops[j]? = some o → o.dst = some d → Φ j (b.tmps.getD d undef) w') → Q .normal b w') : (Code.region id ops true).wp P Q a w := by
  refine wp_region_any hm (wpAny_facts (W := w) hA hD hst hstep hend _ _ _ _ ⟨(Ext.refl w).drew, rfl, rfl, by simp, fun _ _ => rfl, fun j o d ho hl _ => ?_⟩ (by rw [Array.toList_replicate, cntF_rep]; exact Nat.le_refl _))
  rw [Array.getD_eq_getD_getElem?] at hl
  by_cases hj : j < ops.size <;> simp [hj] at hl

/-- A frame that differs in the slots D alone. -/
theorem frame_puts {b a : Act} {D : List Tmp} (hd : b.defers = a.defers) (hz : b.tmps.size = a.tmps.size) (he : ∀ t, t ∉ D → b.tmps.getD t undef = a.tmps.getD t undef) :
    b = D.foldl (fun f d => f.put (some d) (b.tmps.getD d undef)) a := by
  have key : ∀ (D : List Tmp) (f : Act), f.defers = b.defers → f.tmps.size = b.tmps.size → (∀ t, t ∉ D → b.tmps.getD t undef = f.tmps.getD t undef) → b = D.foldl (fun f d => f.put (some d) (b.tmps.getD d undef)) f := by
    intro D
    induction D with
    | nil =>
      intro f h1 h2 h3
      obtain ⟨bt, bd⟩ := b
      obtain ⟨ft, fd⟩ := f
      simp only at h1 h2 h3
      subst h1
      have : bt = ft := by
        apply Array.ext
        · exact h2.symm
        · intro i hi hj
          have := h3 i (by simp)
          rw [Array.getD_eq_getD_getElem?, Array.getD_eq_getD_getElem?, Array.getElem?_eq_getElem hi, Array.getElem?_eq_getElem hj] at this
          simpa using this
      rw [this]; rfl
    | cons d D ih =>
      intro f h1 h2 h3
      refine ih _ (put_defers.trans h1) (put_size.trans h2) fun t ht => ?_
      by_cases htd : t = d
      · subst htd
        by_cases hlt : t < f.tmps.size
        · rw [put_same hlt]
        · have e1 : ∀ (c : Act), ¬ t < c.tmps.size → c.tmps.getD t undef = undef := fun c h => by simp [Array.getD, h]
          rw [e1 b (by rw [← h2]; exact hlt), e1 _ (by rw [put_size]; exact hlt)]
      · rw [put_other (fun e => htd (Option.some.inj e).symm)]
        exact h3 t (by simp [htd, ht])
  exact key D a hd.symm hz.symm he
/-- All operations of a list, each by itself. -/
def RSteps (S : Nat → Oper → Prop) : Nat → List Oper → Prop
  | _, [] => True
  | k, o :: r => S k o ∧ RSteps S (k + 1) r
theorem RSteps.get {S : Nat → Oper → Prop} : ∀ (k : Nat) (l : List Oper), RSteps S k l → ∀ j o, l[j]? = some o → S (k + j) o
  | k, [], _, j, o, h => by simp at h
  | k, p :: r, ⟨h0, h1⟩, 0, o, h => by simp at h; subst h; exact h0
  | k, p :: r, ⟨h0, h1⟩, j + 1, o, h => by
    have := RSteps.get (k + 1) r h1 j o (by simpa using h)
    rwa [show k + 1 + j = k + (j + 1) by omega] at this

/-- What may be known of a value: it stays known in grown worlds. -/
inductive Fact where
  | is (v : Value)
  | bytes (l : List UInt8)
  | st (p : Value → World → Prop) (h : ∀ v w w', p v w → Ext w w' → p v w')
  | any
def Fact.holds : Fact → Value → World → Prop
  | .is u, v, _ => v = u
  | .bytes l, v, w => By w [] v l
  | .st p _, v, w => p v w
  | .any, _, _ => True
theorem Fact.stays (f : Fact) (v : Value) (w w' : World) (h : f.holds v w) (hx : Ext w w') : f.holds v w' := by
  cases f with
  | is u => exact h
  | bytes l => exact Sl.ext h hx
  | st p hp => exact hp v w w' h hx
  | any => trivial
def factsOf (L : List Fact) (i : Nat) (v : Value) (w : World) : Prop := (L.getD i .any).holds v w

theorem wp_region_list {id : Nat} {w : World} (L : List Fact) (hm : P.follows .mixedOrders = true) (hA : acycB ops = true) (hD : dstsB ops a.tmps.size = true)
    (hstep : RSteps (fun k o => ∀ b w', RAt ops (factsOf L) a w k b w' → RGood P ops (factsOf L) Q k o b w') 0 ops.toList)
    (hend : ∀ b w', Ext w w' → b.defers = a.defers → b.tmps.size = a.tmps.size → (∀ t, t ∉ dstsOf ops → b.tmps.getD t undef = a.tmps.getD t undef) →
      (∀ j o d, ops[j]? = some o → o.dst = some d → factsOf L j (b.tmps.getD d undef) w') → Q .normal b w') : (Code.region id ops true).wp P Q a w :=
  wp_region_facts hm hA hD (factsOf L) (fun i v w w' h hx => Fact.stays _ v w w' h hx) (fun i o ho b w' h => by
    have := RSteps.get 0 ops.toList hstep i o (by simpa using ho) b w'
    rw [Nat.zero_add] at this
    exact this h) hend

section
variable {i : Nat} {o : Oper} {b : Act} {w : World}
theorem good_run {v : Value} (hg : Region.wanted o (yielded ops b.tmps) = true) (hr : (execOp b.eval o).run P w = .ok (.value v) w) (hΦ : Φ i v w) : RGood P ops Φ Q i o b w :=
  .inl ⟨hg, by unfold Oper.wp; rw [hr]; exact ⟨v, rfl, hΦ, Ext.refl w⟩⟩
theorem good_move {x : Operand} (hg : Region.wanted o (yielded ops b.tmps) = true) (ho : o.op = .move x) (hΦ : Φ i (b.eval x) w) : RGood P ops Φ Q i o b w :=
  good_run hg (by simp [execOp, ho, Sem.run_pure]) hΦ
theorem wanted_none (hg : o.guard = none) : Region.wanted o (yielded ops b.tmps) = true := by unfold Region.wanted; rw [hg]
theorem enters {f : FuncId} {fn : Func} {c : Code} (hf : P.funcs[f]? = some fn) (hname : (fn.name == "runtime.NumGoroutine") = false) (hb : fn.body = some c) : ∀ args w, (callFunc f args).run P w = .ok (.enter f args) w := by
  intro args w
  have h1 : fn.name ≠ "runtime.NumGoroutine" := by simpa using hname
  simp [callFunc, hf, h1, hb, mark]
theorem exec_field {ρ : Operand → Value} {t : TypeId} {x : Operand} {k : Nat} {u v : Value} (ho : o.op = .fieldAddr t x k) (hx : ρ x = u) (hr : (Instr.fieldAt t u k).run P w = .ok v w) : (execOp ρ o).run P w = .ok (.value v) w := by
  simp only [execOp, ho, hx, Sem.run_bind, hr, Sem.run_pure, Result.andThen_ok]
theorem good_field {t : TypeId} {x : Operand} {k : Nat} {u v : Value} (hg : Region.wanted o (yielded ops b.tmps) = true) (ho : o.op = .fieldAddr t x k) (hx : b.eval x = u) (hr : (Instr.fieldAt t u k).run P w = .ok v w) (hΦ : Φ i v w) : RGood P ops Φ Q i o b w :=
  good_run hg (exec_field ho hx hr) hΦ
theorem exec_index {ρ : Operand → Value} {t : TypeId} {x y : Operand} {u u' v : Value} (ho : o.op = .indexAddr t x y) (hx : ρ x = u) (hy : ρ y = u') (hr : (Instr.indexAt t u u').run P w = .ok v w) : (execOp ρ o).run P w = .ok (.value v) w := by
  simp only [execOp, ho, hx, hy, Sem.run_bind, hr, Sem.run_pure, Result.andThen_ok]
theorem good_index {t : TypeId} {x y : Operand} {u u' v : Value} (hg : Region.wanted o (yielded ops b.tmps) = true) (ho : o.op = .indexAddr t x y) (hx : b.eval x = u) (hy : b.eval y = u') (hr : (Instr.indexAt t u u').run P w = .ok v w) (hΦ : Φ i v w) : RGood P ops Φ Q i o b w :=
  good_run hg (exec_index ho hx hy hr) hΦ
theorem exec_load {ρ : Operand → Value} {t : TypeId} {x : Operand} {u v : Value} (ho : o.op = .load t x) (hx : ρ x = u) (hr : (Instr.loadAt t u).run P w = .ok v w) : (execOp ρ o).run P w = .ok (.value v) w := by
  simp only [execOp, ho, hx, Sem.run_bind, hr, Sem.run_pure, Result.andThen_ok]
theorem good_load {t : TypeId} {x : Operand} {u v : Value} (hg : Region.wanted o (yielded ops b.tmps) = true) (ho : o.op = .load t x) (hx : b.eval x = u) (hr : (Instr.loadAt t u).run P w = .ok v w) (hΦ : Φ i v w) : RGood P ops Φ Q i o b w :=
  good_run hg (exec_load ho hx hr) hΦ
theorem exec_slice {ρ : Operand → Value} {t : TypeId} {x : Operand} {lo hi mx : Option Operand} {u v : Value} {l' h' m' : Option Value} (ho : o.op = .slice t x lo hi mx) (hx : ρ x = u) (hl : lo.map ρ = l') (hh : hi.map ρ = h') (hm : mx.map ρ = m') (hr : (Instr.sliceAt t u l' h' m').run P w = .ok v w) : (execOp ρ o).run P w = .ok (.value v) w := by
  simp only [execOp, ho, hx, hl, hh, hm, Sem.run_bind, hr, Sem.run_pure, Result.andThen_ok]
theorem good_slice {t : TypeId} {x : Operand} {lo hi mx : Option Operand} {u v : Value} {l' h' m' : Option Value} (hg : Region.wanted o (yielded ops b.tmps) = true) (ho : o.op = .slice t x lo hi mx) (hx : b.eval x = u) (hl : lo.map b.eval = l') (hh : hi.map b.eval = h') (hm : mx.map b.eval = m') (hr : (Instr.sliceAt t u l' h' m').run P w = .ok v w) (hΦ : Φ i v w) : RGood P ops Φ Q i o b w :=
  good_run hg (exec_slice ho hx hl hh hm hr) hΦ
theorem good_call {f : FuncId} {xs : Array Operand} {ats : Array TypeId} (hg : Region.wanted o (yielded ops b.tmps) = true) (ho : o.op = .call { callee := .value (.func f), args := xs, argTypes := ats })
    (he : ∀ args w, (callFunc f args).run P w = .ok (.enter f args) w) (hc : Calls P f (xs.map b.eval) w fun e w' => ∃ v, e = .returned v ∧ Φ i v w' ∧ Ext w w') : RGood P ops Φ Q i o b w := by
  refine .inl ⟨hg, ?_⟩
  unfold Oper.wp
  have : (execOp b.eval o).run P w = .ok (.enter f (xs.map b.eval)) w := by
    simp [execOp, ho, resolve, Act.eval, Deferred.ofValue, invoke, he, go_sem]
  rw [this]
  exact hc.mono fun e w' ⟨v, he, h1, h2⟩ => by subst he; exact ⟨v, rfl, h1, h2⟩
end
end
end Go.Proofs.YtljkneajdndgjabGreat
