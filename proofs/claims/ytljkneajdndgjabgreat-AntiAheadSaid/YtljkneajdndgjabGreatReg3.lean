/-
  A helper of ours: no claim of its own. A region that draws its order: its first n operations by facts, in whatever order; what is behind them comes in the text's order.
-/
import Derived.Test.YtljkneajdndgjabGreatRf
import Derived.Shelf.RegionOpen
import Derived.Test.YtljkneajdndgjabGreatValQ
import Derived.Test.YtljkneajdndgjabGreatRowA

import Derived.Test.YtljkneajdndgjabGreatValB
import Derived.Test.YtljkneajdndgjabGreatReg
set_option linter.unusedVariables false
set_option linter.unusedSimpArgs false
namespace Go.Proofs.YtljkneajdndgjabGreat
open Go.RowKit
theorem wide_depth : Fence.wide.depth = none := rfl
theorem wide_fn (f : FuncId) : Fence.wide.fn f = True := rfl
theorem seq_gi {P : Program} {l n : Nat} {f : FuncId} {args : Array Value} {w : World} {v : Value} {R : Ending → World → Prop} (h : Calls P f args w fun e w' => e = .returned v ∧ Ext w w')
    (hr : ∀ g : GW w, R (.returned v) g.val) : CallsIn (Fence.wide.inRound l) n P f args w R := in_round (seq_gw h hr)
/-- What is told of a box across a turn of a block that holds no cells. -/
theorem ob_put {A : World} {l : Nat} {o o' : Obj} (ho : A.heap[l]? = some o) (hc : o.isCells = false) {b : Nat} {T : TypeId} {vs : List Value} (h : Ob A b T vs) : Ob (A.putObj l o') b T vs := put_block ho hc h rfl
end Go.Proofs.YtljkneajdndgjabGreat
set_option linter.unusedVariables false
set_option linter.unusedSimpArgs false
namespace Go.Proofs.YtljkneajdndgjabGreat
open Go.RowKit
attribute [local go_sem] GW.cell GW.frozen In.eq_true In.le_true In.ne In.ne' In.ne_add In.ne_add' In.lt_add Upto.le_true Upto.le_add Upto.lt_add Oper.semAt_some wide_depth wide_fn
/-- A column's two cells. -/
def cc (a : Cl) : List Value := [.string a.1, .int .i64 a.2]
def cl (l : List Cl) : List Value := l.flatMap cc
end Go.Proofs.YtljkneajdndgjabGreat
set_option linter.unusedVariables false
namespace Go.Proofs.YtljkneajdndgjabGreat
def idxP {α : Type} (p : α → Bool) : Nat → List α → Int
  | _, [] => -1
  | k, x :: r => if p x then idxP p (k + 1) r else k
theorem idxP_yes {α : Type} {p : α → Bool} {k : Nat} {x : α} {r : List α} (h : p x = true) : idxP p k (x :: r) = idxP p (k + 1) r := by
  show (if p x then _ else _) = _
  rw [h]; rfl
theorem idxP_no {α : Type} {p : α → Bool} {k : Nat} {x : α} {r : List α} (h : p x = false) : idxP p k (x :: r) = k := by
  show (if p x then _ else _) = _
  rw [h]; rfl
theorem idxP_ge {α : Type} (p : α → Bool) : ∀ (k : Nat) (l : List α), decide ((0 : Int) ≤ idxP p k l) = !l.all p
  | _, [] => rfl
  | k, x :: r => by
    rw [List.all_cons]
    cases h : p x
    · rw [idxP_no h]; simp
    · rw [idxP_yes h, Bool.true_and]; exact idxP_ge p (k + 1) r
/-- Are two lists of one length, and does a test hold pair by pair? -/
def eqP {α β : Type} (p : α → β → Bool) : List α → List β → Bool
  | [], [] => true
  | x :: a, y :: b => p x y && eqP p a b
  | [], _ :: _ => false
  | _ :: _, [] => false
theorem eqP_yes {α β : Type} {p : α → β → Bool} {x : α} {y : β} {a : List α} {b : List β} (h : p x y = true) : eqP p (x :: a) (y :: b) = eqP p a b := by
  show (p x y && eqP p a b) = _
  rw [h, Bool.true_and]
theorem eqP_no {α β : Type} {p : α → β → Bool} {x : α} {y : β} {a : List α} {b : List β} (h : p x y = false) : eqP p (x :: a) (y :: b) = false := by
  show (p x y && eqP p a b) = _
  rw [h, Bool.false_and]
theorem eqP_len {α β : Type} {p : α → β → Bool} : ∀ {a : List α} {b : List β}, a.length ≠ b.length → eqP p a b = false
  | [], [], h => absurd rfl h
  | [], _ :: _, _ => rfl
  | _ :: _, [], _ => rfl
  | x :: a, y :: b, h => by
    show (p x y && eqP p a b) = _
    rw [eqP_len (a := a) (b := b) (fun e => h (by simp [e])), Bool.and_false]
end Go.Proofs.YtljkneajdndgjabGreat
set_option linter.unusedVariables false
set_option linter.unusedSimpArgs false
namespace Go.Proofs.YtljkneajdndgjabGreat
open Go.RowKit
attribute [local go_sem] GW.cell GW.frozen In.eq_true In.le_true In.ne In.ne' In.ne_add In.ne_add' In.lt_add Upto.le_true Upto.le_add Upto.lt_add
end Go.Proofs.YtljkneajdndgjabGreat
set_option linter.unusedVariables false
set_option linter.unusedSimpArgs false
namespace Go.Proofs.YtljkneajdndgjabGreat
open Go.RowKit
attribute [local go_sem] GW.cell GW.frozen In.eq_true In.le_true In.ne In.ne' In.ne_add In.ne_add' In.lt_add Upto.le_true Upto.le_add Upto.lt_add Oper.semAt_some wide_depth wide_fn
end Go.Proofs.YtljkneajdndgjabGreat
set_option linter.unusedVariables false
set_option linter.unusedSimpArgs false
namespace Go.Proofs.YtljkneajdndgjabGreat
open Go.RowKit
attribute [local go_sem] GW.cell GW.frozen In.eq_true In.le_true In.ne In.ne' In.ne_add In.ne_add' In.lt_add Upto.le_true Upto.le_add Upto.lt_add Oper.semAt_some wide_depth wide_fn
end Go.Proofs.YtljkneajdndgjabGreat
set_option linter.unusedVariables false
set_option linter.unusedSimpArgs false
namespace Go.Proofs.YtljkneajdndgjabGreat
open Go.RowKit
attribute [-go_sem] sliced
attribute [local go_sem] sliced_eq
attribute [local go_sem] GW.cell GW.frozen In.eq_true In.le_true In.ne In.ne' In.ne_add In.ne_add' In.lt_add Upto.le_true Upto.le_add Upto.lt_add
theorem cutA_own {w : World} {B e size n cap : Nat} {A : Option Addr} {xs : List Value} (h : w.ownsRow B e size (.slice A n cap) n xs) : cutA A 0 cap size = A := by
  rcases h.2 with ⟨h', _⟩ | ⟨g, cap', cur, h', _⟩
  · simp only [Value.slice.injEq] at h'
    obtain ⟨rfl, -, -⟩ := h'
    unfold cutA; split <;> rfl
  · simp only [Value.slice.injEq] at h'
    obtain ⟨rfl, -, -⟩ := h'
    unfold cutA; split
    · rfl
    · simp [add_plain]
/-- A slice of one's own, cut short. -/
theorem own_cut {w : World} {B e size n cap : Nat} {A : Option Addr} {xs : List Value} (h : w.ownsRow B e size (.slice A n cap) n xs) (i : Nat) (hi : i ≤ n) : w.ownsRow B e size (.slice (cutA A 0 cap size) i cap) i (xs.take (i * size)) := by
  rw [cutA_own h]
  rcases h.2 with ⟨h', h0⟩ | ⟨g, cap', cur, h', hb, hg, hnc, hcm, hcs, ht⟩
  · simp only [Value.slice.injEq] at h'
    obtain ⟨rfl, -, rfl⟩ := h'
    subst h0
    obtain rfl : i = 0 := by omega
    refine ⟨by simp, .inl ⟨rfl, rfl⟩⟩
  · simp only [Value.slice.injEq, true_and] at h'
    obtain ⟨rfl, rfl⟩ := h'
    have hm : i * size ≤ n * size := Nat.mul_le_mul_right _ hi
    refine ⟨by rw [List.length_take, h.1, Nat.min_eq_left hm], .inr ⟨g, cap, cur, rfl, hb, hg, by omega, hcm, hcs, ?_⟩⟩
    rw [← ht, List.take_take, Nat.min_eq_left hm]
/-- A slice of one's own from place i on. -/
theorem own_from {w : World} {B e size n cap : Nat} {A : Option Addr} {xs : List Value} (h : w.ownsRow B e size (.slice A n cap) n xs) (i : Nat) (hi : i ≤ n) (hcap : n ≤ cap) : Sl w [] size (.slice (cutA A i cap size) (n - i) (cap - i)) (n - i) (xs.drop (i * size)) := by
  have hc := Sl.cut (Sl.own (S := []) h (by simp)) i n cap hi (Nat.le_refl _) hcap (Nat.le_refl _)
  rw [sliced_eq, List.take_of_length_le (by rw [h.1]; exact Nat.le_refl _)] at hc
  exact hc
theorem own_cap {w : World} {B e size n cap : Nat} {A : Option Addr} {xs : List Value} (h : w.ownsRow B e size (.slice A n cap) n xs) : n ≤ cap := by
  rcases h.2 with ⟨h', h0⟩ | ⟨g, cap', cur, h', hb, hg, hnc, hcm, hcs, ht⟩
  · simp only [Value.slice.injEq] at h'; omega
  · simp only [Value.slice.injEq, true_and] at h'
    obtain ⟨-, rfl⟩ := h'
    exact hnc
/-- One word of the stack machine. -/
theorem st_step {α : Type} (f : Vl → List α → Except Int α) {st : List α} {o : Vl} {r : List Vl} (h : fE (st.length : Int) (o :: r) = 0) :
    ∃ (st1 st2 : List α), st = st1 ++ st2 ∧ okW o = true ∧ tkI o.1 = (st2.length : Int) ∧ (∀ v, fE ((st1 ++ [v]).length : Int) r = 0) ∧
      (stR f st (o :: r) = match f o st2 with
        | .error e => .error e
        | .ok v => stR f (st1 ++ [v]) r) := by
  unfold fE at h
  by_cases hc : okW o = true ∧ tkI o.1 ≤ (st.length : Int)
  · rw [if_pos hc] at h
    obtain ⟨ho, ht⟩ := hc
    have h0 : 0 ≤ tkI o.1 := by rcases okW_tk ho with e | e | e <;> omega
    obtain ⟨d, hd⟩ := Int.eq_ofNat_of_zero_le h0
    have hdl : d ≤ st.length := by omega
    refine ⟨st.take (st.length - d), st.drop (st.length - d), (List.take_append_drop _ _).symm, ho, by rw [List.length_drop, hd]; omega, fun v => ?_, ?_⟩
    · rw [List.length_append, List.length_take, List.length_singleton, Nat.min_eq_left (by omega)]
      rw [← h]; congr 1; omega
    · rw [stR, hd, Int.toNat_natCast]
      rfl
  · rw [if_neg hc] at h; omega
end Go.Proofs.YtljkneajdndgjabGreat
set_option linter.unusedVariables false
set_option linter.unusedSimpArgs false
namespace Go.Proofs.YtljkneajdndgjabGreat
open Go.RowKit

section
variable {P : Program} {ops : Array Oper} {Φ : Nat → Value → World → Prop} {Q : Exit → Act → World → Prop} {a : Act} {W : World}
theorem cntF_pos : ∀ (l : List Bool) (i : Nat), l[i]? = some false → 0 < cntF l := by
  intro l i h
  have := cntF_set l i h
  omega
theorem cntF_some : ∀ (l : List Bool), 0 < cntF l → ∃ i : Nat, l[i]? = some false := by
  intro l h
  refine Classical.byContradiction fun hn => ?_
  have : ∀ l : List Bool, (∀ i : Nat, l[i]? ≠ some false) → cntF l = 0 := by
    intro l
    induction l with
    | nil => intro _; rfl
    | cons b r ih =>
      intro hb
      have h0 := hb 0
      have hr := ih fun i => by have := hb (i + 1); simpa using this
      cases b
      · simp at h0
      · simpa [cntF] using hr
  have := this l fun i e => hn ⟨i, e⟩
  omega
theorem wpAny_facts_tail {n : Nat} (hA : acycB ops = true) (hD : dstsB ops a.tmps.size = true) (hn : n < ops.size) (hs : Region.sinkB .any ops n = true) (hc : Region.chainB .any ops n = true)
    (hq : Region.seqB .any ops (ops.size - n) n (Array.replicate n true ++ Array.replicate (ops.size - n) false) = true)
    (hst : ∀ i v w w', Φ i v w → Ext w w' → Φ i v w')
    (hstep : ∀ i o, i < n → ops[i]? = some o → ∀ b w, RAt ops Φ a W i b w → (∀ t, t ∉ dstsOf (ops.toList.take n).toArray → b.tmps.getD t undef = a.tmps.getD t undef) → RGood P ops Φ Q i o b w)
    (hend : ∀ b w, Ext W w → b.defers = a.defers → b.tmps.size = a.tmps.size → (∀ t, t ∉ dstsOf ops → b.tmps.getD t undef = a.tmps.getD t undef) →
      (∀ j o d, j < n → ops[j]? = some o → o.dst = some d → Φ j (b.tmps.getD d undef) w) → (∀ t, t ∉ dstsOf (ops.toList.take n).toArray → b.tmps.getD t undef = a.tmps.getD t undef) → wpList P ops Q (ops.toList.drop n) b w) :
    ∀ (f : Nat) (listed : Array Bool) (b : Act) (w : World), RInv ops Φ a W listed b w → (∀ t, t ∉ dstsOf (ops.toList.take n).toArray → b.tmps.getD t undef = a.tmps.getD t undef) → HeadInv .any ops n listed → cntF (listed.toList.take n) = f → wpAny P .any ops Q (f + (ops.size - n)) listed b w := by
  intro f
  induction f with
  | zero =>
    intro listed b w I I2 H hcn
    have hl : ∀ j, j < n → listed.getD j false = true := by
      intro j hj
      have hjl : j < listed.size := by have := I.len; omega
      have e1 := getD_some (l := listed) (d := false) hjl
      cases h : listed.getD j false with
      | true => rfl
      | false =>
        rw [h] at e1
        have := cntF_pos (listed.toList.take n) j (by rw [List.getElem?_take, if_pos hj]; simpa using e1)
        omega
    have hle : listed = Array.replicate n true ++ Array.replicate (ops.size - n) false := by
      have hlen := I.len
      apply Array.ext
      · simp; omega
      · intro i h1 h2
        by_cases hi : i < n
        · have := hl i hi
          have e1 := getD_some (l := listed) (d := false) h1
          rw [this, Array.getElem?_eq_getElem h1] at e1
          rw [Option.some.inj e1, Array.getElem_append_left (by simpa using hi)]; simp
        · have := H.tail i (by omega) (by omega)
          have e1 := getD_some (l := listed) (d := true) h1
          rw [this, Array.getElem?_eq_getElem h1] at e1
          rw [Option.some.inj e1, Array.getElem_append_right (by simp; omega)]; simp
    have hd : (ops.toList.drop n).length = ops.size - n := by simp
    rw [Nat.zero_add, ← hd]
    refine wpAny_of_seq (md := .any) (ops.toList.drop n) n listed b w (fun j => by simp [List.getElem?_drop]) (by rw [hd, hle]; exact hq) ?_
    exact hend b w I.ext I.defers I.size I.else_ (fun j o d hj ho hd => I.fact j o d ho (hl j hj) hd) I2
  | succ f ih =>
    intro listed b w I I2 H hcn
    obtain ⟨i0, hi0⟩ := cntF_some (listed.toList.take n) (by omega)
    have hi0n : i0 < n := by
      rcases Nat.lt_or_ge i0 n with h | h
      · exact h
      · rw [List.getElem?_take, if_neg (by omega)] at hi0; cases hi0
    have hun0 : listed.getD i0 true = false := by
      rw [List.getElem?_take, if_pos hi0n] at hi0
      rw [Array.getD_eq_getD_getElem?]
      simp at hi0
      rw [hi0]; rfl
    rw [show f + 1 + (ops.size - n) = (f + (ops.size - n)) + 1 by omega]
    refine ⟨fun hr => ?_, fun i hi => ?_⟩
    · have := all_listed hA I.len hr i0 (by omega)
      have hjl : i0 < listed.size := by have := I.len; omega
      have e1 := getD_some (l := listed) (d := false) hjl
      have e2 := getD_some (l := listed) (d := true) hjl
      rw [e1] at e2; have e3 := Option.some.inj e2; rw [this, hun0] at e3; cases e3
    · have hin : i < n := by
        rcases Nat.lt_or_ge i n with h | h
        · exact h
        · exact absurd hi (tail_waits hs hc hn H _ i0 rfl hi0n hun0 i h)
      obtain ⟨h1, o, ho, hdep⟩ := mem_ready.1 hi
      have hj := (Array.getElem?_eq_some_iff.1 ho).1
      have hjl : i < listed.size := by have := I.len; omega
      have hat : RAt ops Φ a W i b w := ⟨I.ext, I.defers, I.size, I.else_, fun j p d hd hp hpd => I.fact j p d hp (by
        unfold depB at hd; rw [ho] at hd
        obtain ⟨k, hk, he⟩ := Array.any_eq_true.1 hd
        simp only [Bool.and_eq_true, beq_iff_eq] at he
        have := hdep _ (Array.getElem_mem hk) he.1
        rwa [he.2] at this) hpd⟩
      have hget : (listed.toList.take n)[i]? = some false := by
        rw [List.getElem?_take, if_pos hin]
        have e2 := getD_some (l := listed) (d := true) hjl
        rw [h1] at e2; simpa using e2
      have hcnt : cntF ((listed.setIfInBounds i true).toList.take n) = f := by
        have := cntF_set _ i hget
        simp only [Array.toList_setIfInBounds, List.take_set]; omega
      have go : ∀ (v : Value) (w' : World), Φ i v w' → Ext w w' → wpAny P .any ops Q (f + (ops.size - n)) (listed.setIfInBounds i true) (b.put o.dst v) w' := by
        intro v w' hv hx
        refine ih _ _ _ ⟨I.ext.trans hx, put_defers.trans I.defers, put_size.trans I.size, by simpa using I.len, fun t ht => ?_, fun j p d hp hl hd => ?_⟩ ?_ (H.set hi hin) hcnt
        · rw [put_other, I.else_ t ht]
          intro e
          exact ht (List.mem_filterMap.2 ⟨o, by rw [Array.mem_toList_iff]; exact Array.mem_of_getElem? ho, e⟩)
        · have hds : d < b.tmps.size := by
            rw [I.size]
            have := List.all_eq_true.1 (Bool.and_eq_true_iff.1 hD).1 d (List.mem_filterMap.2 ⟨p, by rw [Array.mem_toList_iff]; exact Array.mem_of_getElem? hp, hd⟩)
            simpa using this
          by_cases hij : i = j
          · subst hij
            rw [ho] at hp; cases hp
            rw [hd, put_same hds]; exact hv
          · have hl' : listed.getD j false = true := by
              rw [Array.getD_eq_getD_getElem?, Array.getElem?_setIfInBounds, if_neg hij] at hl
              rw [Array.getD_eq_getD_getElem?]; exact hl
            have hpj := (Array.getElem?_eq_some_iff.1 hp).1
            have hne : o.dst ≠ some d := by
              intro e
              have h2 := List.all_eq_true.1 (List.all_eq_true.1 (Bool.and_eq_true_iff.1 hD).2 i (List.mem_range.2 hj)) j (List.mem_range.2 hpj)
              simp [hij, ho, hp, e, hd] at h2
            rw [put_other hne]
            exact hst _ _ _ _ (I.fact j p d hp hl' hd) hx
        · intro t ht
          rw [put_other, I2 t ht]
          intro e
          refine ht (List.mem_filterMap.2 ⟨o, ?_, e⟩)
          rw [Array.mem_toList_iff]
          refine Array.mem_of_getElem? (i := i) ?_
          rw [List.getElem?_toArray, List.getElem?_take, if_pos hin]; simpa using ho
      unfold wpOp
      rcases hstep i o hin ho b w hat I2 with ⟨hw, hwp⟩ | ⟨hw, hv⟩
      · simp only [ho, hw, if_true]
        left
        refine Oper.wp_mono ?_ hwp
        rintro b' w' ⟨v, rfl, hv, hx⟩
        exact go v w' hv hx
      · simp only [ho, hw]
        exact go undef w hv (Ext.refl w)
theorem wp_region_list_tail {id : Nat} {w : World} (n : Nat) (L : List Fact) (hm : P.follows .mixedOrders = true) (hA : acycB ops = true) (hD : dstsB ops a.tmps.size = true)
    (hn : decide (n < ops.size) = true) (hs : Region.sinkB .any ops n = true) (hc : Region.chainB .any ops n = true) (hq : Region.seqB .any ops (ops.size - n) n (Array.replicate n true ++ Array.replicate (ops.size - n) false) = true)
    (hstep : RSteps (fun k o => ∀ b w', RAt ops (factsOf L) a w k b w' → (∀ t, t ∉ dstsOf (ops.toList.take n).toArray → b.tmps.getD t undef = a.tmps.getD t undef) → RGood P ops (factsOf L) Q k o b w') 0 (ops.toList.take n))
    (hend : ∀ b w', Ext w w' → b.defers = a.defers → b.tmps.size = a.tmps.size → (∀ t, t ∉ dstsOf (ops.toList.take n).toArray → b.tmps.getD t undef = a.tmps.getD t undef) →
      (∀ j o d, j < n → ops[j]? = some o → o.dst = some d → factsOf L j (b.tmps.getD d undef) w') → wpList P ops Q (ops.toList.drop n) b w') : (Code.region id ops true).wp P Q a w := by
  have hn' := of_decide_eq_true hn
  refine wp_region_any hm ?_
  have := wpAny_facts_tail (P := P) (Φ := factsOf L) (Q := Q) (W := w) hA hD hn' hs hc hq (fun i v w w' h hx => Fact.stays _ v w w' h hx) (fun i o hi ho b w' h hE => by
    have := RSteps.get 0 (ops.toList.take n) hstep i o (by rw [List.getElem?_take, if_pos hi]; simpa using ho) b w'
    rw [Nat.zero_add] at this
    exact this h hE) (fun b w' h1 h2 h3 _ h5 h6 => hend b w' h1 h2 h3 h6 h5) n (Array.replicate ops.size false) a { w with drawn := w.drawn + 1 } ⟨(Ext.refl w).drew, rfl, rfl, by simp, fun _ _ => rfl, fun j o d ho hl _ => ?_⟩ (fun _ _ => rfl)
    ⟨by simp, fun j oj _ hl => (by rw [getD_replicate_false] at hl; cases hl), fun t _ ht => getD_in (by simpa using ht) (getD_replicate_false _ _)⟩ (by
      rw [Array.toList_replicate, List.take_replicate, cntF_rep]; omega)
  · rwa [show n + (ops.size - n) = ops.size by omega] at this
  · rw [getD_replicate_false] at hl; cases hl
theorem good_grow {i : Nat} {o : Oper} {b : Act} {w w' : World} {v : Value} (hg : Region.wanted o (yielded ops b.tmps) = true) (hr : (execOp b.eval o).run P w = .ok (.value v) w') (hΦ : Φ i v w') (hx : Ext w w') : RGood P ops Φ Q i o b w :=
  .inl ⟨hg, by unfold Oper.wp; rw [hr]; exact ⟨v, rfl, hΦ, hx⟩⟩
end
end Go.Proofs.YtljkneajdndgjabGreat
