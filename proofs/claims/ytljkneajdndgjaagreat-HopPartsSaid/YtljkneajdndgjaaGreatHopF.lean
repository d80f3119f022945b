/-
  A helper of ours: no claim of its own. Layer 28 (hop): where windows begin that share a tick with a lifetime, by the code.
-/
import Derived.Test.YtljkneajdndgjaaGreatStepR
import Derived.Test.YtljkneajdndgjaaGreatEdgS
import Derived.Test.YtljkneajdndgjaaGreatHopE
import Derived.Sort.LoopGhostIn
set_option linter.unusedVariables false
set_option linter.unusedSimpArgs false
namespace Go.Proofs.YtljkneajdndgjaaGreat
open Go.RowKit
section
variable {P : Program} {ops : Array Oper} {Φ : Nat → Value → World → Prop} {Q : Exit → Act → World → Prop} {a : Act} {W : World}
structure RInvO (ops : Array Oper) (Φ : Nat → Value → World → Prop) (G : World → World → Prop) (k0 : Nat) (a : Act) (W : World) (listed : Array Bool) (b : Act) (w : World) : Prop where
  ext : G W w
  early : listed.getD k0 false = false → Ext W w
  defers : b.defers = a.defers
  size : b.tmps.size = a.tmps.size
  len : listed.size = ops.size
  else_ : ∀ t, t ∉ dstsOf ops → b.tmps.getD t undef = a.tmps.getD t undef
  fact : ∀ j o d, ops[j]? = some o → listed.getD j false = true → o.dst = some d → Φ j (b.tmps.getD d undef) w
structure RAtO (ops : Array Oper) (Φ : Nat → Value → World → Prop) (G : World → World → Prop) (k0 : Nat) (a : Act) (W : World) (i : Nat) (b : Act) (w : World) : Prop where
  ext : G W w
  early : i = k0 → Ext W w
  defers : b.defers = a.defers
  size : b.tmps.size = a.tmps.size
  else_ : ∀ t, t ∉ dstsOf ops → b.tmps.getD t undef = a.tmps.getD t undef
  dep : ∀ j o d, depB ops i j = true → ops[j]? = some o → o.dst = some d → Φ j (b.tmps.getD d undef) w
def RGoodO (P : Program) (ops : Array Oper) (Φ : Nat → Value → World → Prop) (G : World → World → Prop) (Q : Exit → Act → World → Prop) (k0 i : Nat) (o : Oper) (b : Act) (w : World) : Prop :=
  RGood P ops Φ Q i o b w ∨ (i = k0 ∧ (Region.wanted o (yielded ops b.tmps) = true ∧ o.wp P b w (fun b' w' => ∃ v, b' = b.put o.dst v ∧ Φ i v w' ∧ G w w') Q))
theorem wpAny_facts_once {n k0 : Nat} {G : World → World → Prop} (hGe : ∀ x y, Ext x y → G x y) (hGt : ∀ x y z, G x y → G y z → G x z) (hA : acycB ops = true) (hD : dstsB ops a.tmps.size = true) (hn : n < ops.size) (hs : Region.sinkB .any ops n = true) (hc : Region.chainB .any ops n = true)
    (hq : Region.seqB .any ops (ops.size - n) n (Array.replicate n true ++ Array.replicate (ops.size - n) false) = true)
    (hst : ∀ i v w w', Φ i v w → Ext w w' → Φ i v w') (hstk : ∀ j v w w', j ≠ k0 → depB ops j k0 = false → Φ j v w → G w w' → Φ j v w')
    (hstep : ∀ i o, i < n → ops[i]? = some o → ∀ b w, RAtO ops Φ G k0 a W i b w → (∀ t, t ∉ dstsOf (ops.toList.take n).toArray → b.tmps.getD t undef = a.tmps.getD t undef) → RGoodO P ops Φ G Q k0 i o b w)
    (hend : ∀ b w, G W w → b.defers = a.defers → b.tmps.size = a.tmps.size → (∀ t, t ∉ dstsOf ops → b.tmps.getD t undef = a.tmps.getD t undef) →
      (∀ j o d, j < n → ops[j]? = some o → o.dst = some d → Φ j (b.tmps.getD d undef) w) → (∀ t, t ∉ dstsOf (ops.toList.take n).toArray → b.tmps.getD t undef = a.tmps.getD t undef) → wpList P ops Q (ops.toList.drop n) b w) :
    ∀ (f : Nat) (listed : Array Bool) (b : Act) (w : World), RInvO ops Φ G k0 a W listed b w → (∀ t, t ∉ dstsOf (ops.toList.take n).toArray → b.tmps.getD t undef = a.tmps.getD t undef) → HeadInv .any ops n listed → cntF (listed.toList.take n) = f → wpAny P .any ops Q (f + (ops.size - n)) listed b w := by
  intro f
  induction f with
  | zero =>
    intro listed b w I I2 H hcn
    have hl : ∀ j, j < n → listed.getD j false = true := by
      intro j hj
      have hjl : j < listed.size := by have := I.len; omega
      have e1 := getD_some (l := listed) (d := false) hjl
      cases h : listed.getD j false with
      | true => rfl
      | false =>
        rw [h] at e1
        have := cntF_pos (listed.toList.take n) j (by rw [List.getElem?_take, if_pos hj]; simpa using e1)
        omega
    have hle : listed = Array.replicate n true ++ Array.replicate (ops.size - n) false := by
      have hlen := I.len
      apply Array.ext
      · simp; omega
      · intro i h1 h2
        by_cases hi : i < n
        · have := hl i hi
          have e1 := getD_some (l := listed) (d := false) h1
          rw [this, Array.getElem?_eq_getElem h1] at e1
          rw [Option.some.inj e1, Array.getElem_append_left (by simpa using hi)]; simp
        · have := H.tail i (by omega) (by omega)
          have e1 := getD_some (l := listed) (d := true) h1
          rw [this, Array.getElem?_eq_getElem h1] at e1
          rw [Option.some.inj e1, Array.getElem_append_right (by simp; omega)]; simp
    have hd : (ops.toList.drop n).length = ops.size - n := by simp
    rw [Nat.zero_add, ← hd]
    refine wpAny_of_seq (md := .any) (ops.toList.drop n) n listed b w (fun j => by simp [List.getElem?_drop]) (by rw [hd, hle]; exact hq) ?_
    exact hend b w I.ext I.defers I.size I.else_ (fun j o d hj ho hd => I.fact j o d ho (hl j hj) hd) I2
  | succ f ih =>
    intro listed b w I I2 H hcn
    obtain ⟨i0, hi0⟩ := cntF_some (listed.toList.take n) (by omega)
    have hi0n : i0 < n := by
      rcases Nat.lt_or_ge i0 n with h | h
      · exact h
      · rw [List.getElem?_take, if_neg (by omega)] at hi0; cases hi0
    have hun0 : listed.getD i0 true = false := by
      rw [List.getElem?_take, if_pos hi0n] at hi0
      rw [Array.getD_eq_getD_getElem?]
      simp at hi0
      rw [hi0]; rfl
    rw [show f + 1 + (ops.size - n) = (f + (ops.size - n)) + 1 by omega]
    refine ⟨fun hr => ?_, fun i hi => ?_⟩
    · have := all_listed hA I.len hr i0 (by omega)
      have hjl : i0 < listed.size := by have := I.len; omega
      have e1 := getD_some (l := listed) (d := false) hjl
      have e2 := getD_some (l := listed) (d := true) hjl
      rw [e1] at e2; have e3 := Option.some.inj e2; rw [this, hun0] at e3; cases e3
    · have hin : i < n := by
        rcases Nat.lt_or_ge i n with h | h
        · exact h
        · exact absurd hi (tail_waits hs hc hn H _ i0 rfl hi0n hun0 i h)
      obtain ⟨h1, o, ho, hdep⟩ := mem_ready.1 hi
      have hj := (Array.getElem?_eq_some_iff.1 ho).1
      have hjl : i < listed.size := by have := I.len; omega
      have hat : RAtO ops Φ G k0 a W i b w := ⟨I.ext, fun e => I.early (by subst e; have e1 := getD_some (l := listed) (d := false) hjl; have e2 := getD_some (l := listed) (d := true) hjl; rw [e1] at e2; have e3 := Option.some.inj e2; rw [e3]; exact h1), I.defers, I.size, I.else_, fun j p d hd hp hpd => I.fact j p d hp (by
        unfold depB at hd; rw [ho] at hd
        obtain ⟨k, hk, he⟩ := Array.any_eq_true.1 hd
        simp only [Bool.and_eq_true, beq_iff_eq] at he
        have := hdep _ (Array.getElem_mem hk) he.1
        rwa [he.2] at this) hpd⟩
      have hget : (listed.toList.take n)[i]? = some false := by
        rw [List.getElem?_take, if_pos hin]
        have e2 := getD_some (l := listed) (d := true) hjl
        rw [h1] at e2; simpa using e2
      have hcnt : cntF ((listed.setIfInBounds i true).toList.take n) = f := by
        have := cntF_set _ i hget
        simp only [Array.toList_setIfInBounds, List.take_set]; omega
      have go : ∀ (v : Value) (w' : World), Φ i v w' → (Ext w w' ∨ (i = k0 ∧ G w w')) → wpAny P .any ops Q (f + (ops.size - n)) (listed.setIfInBounds i true) (b.put o.dst v) w' := by
        intro v w' hv hx
        refine ih _ _ _ ⟨hGt _ _ _ I.ext (hx.elim (hGe _ _) And.right), fun hk => ?early, put_defers.trans I.defers, put_size.trans I.size, by simpa using I.len, fun t ht => ?_, fun j p d hp hl hd => ?_⟩ ?_ (H.set hi hin) hcnt
        case early =>
          rw [Array.getD_eq_getD_getElem?, Array.getElem?_setIfInBounds] at hk
          by_cases hik : i = k0
          · rw [if_pos hik] at hk
            simp [show i < listed.size from hjl] at hk
          · rw [if_neg hik] at hk
            refine (I.early (by rw [Array.getD_eq_getD_getElem?]; exact hk)).trans ?_
            rcases hx with hx | ⟨e, -⟩
            · exact hx
            · exact absurd e hik
        · rw [put_other, I.else_ t ht]
          intro e
          exact ht (List.mem_filterMap.2 ⟨o, by rw [Array.mem_toList_iff]; exact Array.mem_of_getElem? ho, e⟩)
        · have hds : d < b.tmps.size := by
            rw [I.size]
            have := List.all_eq_true.1 (Bool.and_eq_true_iff.1 hD).1 d (List.mem_filterMap.2 ⟨p, by rw [Array.mem_toList_iff]; exact Array.mem_of_getElem? hp, hd⟩)
            simpa using this
          by_cases hij : i = j
          · subst hij
            rw [ho] at hp; cases hp
            rw [hd, put_same hds]; exact hv
          · have hl' : listed.getD j false = true := by
              rw [Array.getD_eq_getD_getElem?, Array.getElem?_setIfInBounds, if_neg hij] at hl
              rw [Array.getD_eq_getD_getElem?]; exact hl
            have hpj := (Array.getElem?_eq_some_iff.1 hp).1
            have hne : o.dst ≠ some d := by
              intro e
              have h2 := List.all_eq_true.1 (List.all_eq_true.1 (Bool.and_eq_true_iff.1 hD).2 i (List.mem_range.2 hj)) j (List.mem_range.2 hpj)
              simp [hij, ho, hp, e, hd] at h2
            rw [put_other hne]
            rcases hx with hx | ⟨rfl, hx⟩
            · exact hst _ _ _ _ (I.fact j p d hp hl' hd) hx
            · refine hstk _ _ _ _ (Ne.symm hij) ?_ (I.fact j p d hp hl' hd) hx
              cases hdp : depB ops j i with
              | false => rfl
              | true =>
                unfold depB at hdp; rw [hp] at hdp
                obtain ⟨k, hk, he⟩ := Array.any_eq_true.1 hdp
                simp only [Bool.and_eq_true, beq_iff_eq] at he
                have h3 := H.closed j p hp hl' _ (Array.getElem_mem hk) he.1
                rw [he.2] at h3
                have e1 := getD_some (l := listed) (d := false) hjl
                have e2 := getD_some (l := listed) (d := true) hjl
                rw [e1] at e2; have e3 := Option.some.inj e2; rw [h3, h1] at e3; cases e3
        · intro t ht
          rw [put_other, I2 t ht]
          intro e
          refine ht (List.mem_filterMap.2 ⟨o, ?_, e⟩)
          rw [Array.mem_toList_iff]
          refine Array.mem_of_getElem? (i := i) ?_
          rw [List.getElem?_toArray, List.getElem?_take, if_pos hin]; simpa using ho
      unfold wpOp
      rcases hstep i o hin ho b w hat I2 with h | ⟨hik, hw, hwp⟩
      · rcases h with ⟨hw, hwp⟩ | ⟨hw, hv⟩
        · simp only [ho, hw, if_true]
          left
          refine Oper.wp_mono ?_ hwp
          rintro b' w' ⟨v, rfl, hv, hx⟩
          exact go v w' hv (.inl hx)
        · simp only [ho, hw]
          exact go undef w hv (.inl (Ext.refl w))
      · simp only [ho, hw, if_true]
        left
        refine Oper.wp_mono ?_ hwp
        rintro b' w' ⟨v, rfl, hv, hx⟩
        exact go v w' hv (.inr ⟨hik, hx⟩)
theorem wp_region_list_once {id : Nat} {w : World} {G : World → World → Prop} (n k0 : Nat) (L : List Fact) (hGe : ∀ x y, Ext x y → G x y) (hGt : ∀ x y z, G x y → G y z → G x z) (hstk : ∀ j v w w', j ≠ k0 → depB ops j k0 = false → factsOf L j v w → G w w' → factsOf L j v w') (hm : P.follows .mixedOrders = true) (hA : acycB ops = true) (hD : dstsB ops a.tmps.size = true)
    (hn : decide (n < ops.size) = true) (hs : Region.sinkB .any ops n = true) (hc : Region.chainB .any ops n = true) (hq : Region.seqB .any ops (ops.size - n) n (Array.replicate n true ++ Array.replicate (ops.size - n) false) = true)
    (hstep : RSteps (fun k o => ∀ b w', RAtO ops (factsOf L) G k0 a w k b w' → (∀ t, t ∉ dstsOf (ops.toList.take n).toArray → b.tmps.getD t undef = a.tmps.getD t undef) → RGoodO P ops (factsOf L) G Q k0 k o b w') 0 (ops.toList.take n))
    (hend : ∀ b w', G w w' → b.defers = a.defers → b.tmps.size = a.tmps.size → (∀ t, t ∉ dstsOf (ops.toList.take n).toArray → b.tmps.getD t undef = a.tmps.getD t undef) →
      (∀ j o d, j < n → ops[j]? = some o → o.dst = some d → factsOf L j (b.tmps.getD d undef) w') → wpList P ops Q (ops.toList.drop n) b w') : (Code.region id ops true).wp P Q a w := by
  have hn' := of_decide_eq_true hn
  refine wp_region_any hm ?_
  have := wpAny_facts_once (P := P) (Φ := factsOf L) (Q := Q) (W := w) (G := G) (k0 := k0) hGe hGt hA hD hn' hs hc hq (fun i v w w' h hx => Fact.stays _ v w w' h hx) hstk (fun i o hi ho b w' h hE => by
    have := RSteps.get 0 (ops.toList.take n) hstep i o (by rw [List.getElem?_take, if_pos hi]; simpa using ho) b w'
    rw [Nat.zero_add] at this
    exact this h hE) (fun b w' h1 h2 h3 _ h5 h6 => hend b w' h1 h2 h3 h6 h5) n (Array.replicate ops.size false) a { w with drawn := w.drawn + 1 } ⟨hGe _ _ (Ext.refl w).drew, fun _ => (Ext.refl w).drew, rfl, rfl, by simp, fun _ _ => rfl, fun j o d ho hl _ => ?_⟩ (fun _ _ => rfl)
    ⟨by simp, fun j oj _ hl => (by rw [getD_replicate_false] at hl; cases hl), fun t _ ht => getD_in (by simpa using ht) (getD_replicate_false _ _)⟩ (by
      rw [Array.toList_replicate, List.take_replicate, cntF_rep]; omega)
  · rwa [show n + (ops.size - n) = ops.size by omega] at this
  · rw [getD_replicate_false] at hl; cases hl
end
end Go.Proofs.YtljkneajdndgjaaGreat
namespace Go.Proofs.YtljkneajdndgjaaGreat
open Go.RowKit
/-- Few edges, that rise little. -/
def fewB (l : List Ed) : Bool := decide (l.length ≤ 60) && l.all fun e => decide (e.2.2 ≤ 10)
theorem fewB_iff {l : List Ed} : fewB l = true ↔ l.length ≤ 60 ∧ ∀ e ∈ l, e.2.2 ≤ 10 := by
  unfold fewB
  simp
end Go.Proofs.YtljkneajdndgjaaGreat
set_option linter.unusedVariables false
set_option linter.unusedSimpArgs false
namespace Go.Proofs.YtljkneajdndgjaaGreat
open Go.RowKit
attribute [local go_sem] GW.cell GW.frozen In.eq_true In.le_true In.ne In.ne' In.ne_add In.ne_add' In.lt_add Upto.le_true Upto.le_add Upto.lt_add Oper.semAt_some wide_depth wide_fn
theorem hret_plain {P : Program} {fn : Func} {R : Ending → World → Prop} {tmps : Array Value} {W : World} {v : Value} (hr : (results fn tmps).run P W = .ok v W) (hR : R (.returned v) W) :
    bodyPostM Fence.wide 0 P fn R .ret { tmps := tmps, defers := [] } W := ⟨v, hr, hR⟩
section
variable {P : Program} {w : World}
theorem hplIn_app {F : Fence} {d : Nat} {ops : Array Oper} {rest : List Oper} {o : Oper} {a : Act} {Q : Exit → Act → World → Prop} {t tx e : TypeId} {z : Value} {size bytes base n m : Nat} {v x : Value} {xs news : List Value} (T : ElemT P t e z size bytes)
    (hgd : o.guard = none) (s y : Operand) (ho : o.op = .call { callee := .builtin .append, args := #[s, y], argTypes := #[t, tx] }) (hv : a.eval s = v) (hown : w.ownsRow base e size v n xs) (hx : a.eval y = x) (hs : Src P size tx x m news w)
    (h63 : n + m ≤ maxLen) (hbytes : (n + m) * bytes ≤ 140737488355328) (hbase : base ≤ w.heap.size)
    (h : ∀ v' w', w'.ownsRow base e size v' (n + m) (xs ++ news) → w.grownBy w' v.ownBlock → (v'.ownBlock = v.ownBlock ∨ v'.ownBlock = some w.heap.size) → wpListIn F d P ops Q rest (a.put o.dst v') w') : wpListIn F d P ops Q (o :: rest) a w := by
  refine wpListIn_plain hgd fun K hK => ?_
  obtain ⟨v', w', hr, h2, h3, h4⟩ := run_app (ty := o.type) T hown hs h63 hbytes hbase
  unfold Oper.wpIn
  refine ⟨?_, ?_⟩
  · simp [Oper.about, ho, resolve, Target.leads, Sem.run_pure]
  · rw [Oper.semAt_plain F _ _ (by rw [ho]; intro c hc'; cases hc')]
    unfold execOp
    simp only [ho, resolve, invoke, builtin, Sem.run_bind, Sem.run_pure, Result.andThen_ok, List.map_toArray, List.map_cons, List.map_nil, hv, hx, hr]
    exact hK _ _ (h v' w' h2 h3 h4)
end
theorem ob_objH {w : World} {base e size n : Nat} {v : Value} {xs : List Value} (h : w.ownsRow base e size v n xs) : ∀ y ∈ ob v, ∃ T vs, Ob w y T vs := by
  intro y hy
  have hy' : v.ownBlock = some y := by simpa [ob] using hy
  rcases h.2 with ⟨rfl, _⟩ | ⟨g, cap, cur, rfl, hb, hg, _⟩
  · cases hy'
  · have : y = g := by simpa [Value.ownBlock] using hy'.symm
    subst this
    exact ⟨e, cur.toList, by unfold Ob; simpa using hg⟩
abbrev IHop (w : World) (b10 b11 b13 B0 : Nat) (T : List Int) (k : Nat) (W : World) : Prop :=
  (Ob W b10 78 [.slice none 0 0] ∧ Ob W b11 28 [.int .i64 0]) ∧ ((∃ mv, Ob W b13 78 [mv] ∧ OwnI W B0 mv (T.take k)) ∧ (k ≤ 1024 ∧ (Ext w W ∧ B0 ≤ W.heap.size)))
theorem IHop.stab (w : World) (b10 b11 b13 B0 : Nat) (T : List Int) (k B : Nat) (hB : w.heap.size ≤ B) : Stab B (IHop w b10 b11 b13 B0 T k) :=
  ((Stab.ob _ _ _).and (Stab.ob _ _ _)).and ((Stab.ex fun mv => (Stab.ob _ _ _).and (Stab.own _ _ _ _ _ _)).and ((Stab.pure _).and ((Stab.of_ext hB).and ⟨fun A C h e => Nat.le_trans h e.size, fun A l o o' h _ _ _ => by simpa using h⟩)))
abbrev IxHop (w : World) (b10 b11 : Nat) (T : List Int) (c : Code) (k : Nat) (W : World) : Prop :=
  (c = .ret ∧ 1024 < T.length) ∧ ((Ob W b10 78 [.slice none 0 0] ∧ Ob W b11 28 [.int .i64 7]) ∧ Ext w W)
theorem IxHop.stab (w : World) (b10 b11 : Nat) (T : List Int) (c : Code) (k B : Nat) (hB : w.heap.size ≤ B) : Stab B (IxHop w b10 b11 T c k) :=
  (Stab.pure _).and (((Stab.ob _ _ _).and (Stab.ob _ _ _)).and (Stab.of_ext hB))
set_option maxHeartbeats 8000000 in
set_option maxRecDepth 100000 in
theorem hstarts_c (s h lo hi f r : Int) (b1 : I64 lo) (b2 : I64 hi) (w : World) : Calls Tryz.prog 52 #[.int .i64 s, .int .i64 h, .agg #[.int .i64 lo, .int .i64 hi], .int .i64 f, .int .i64 r] w fun e w' => ∃ v, e = .returned (.tuple #[v, .int .i64 (hsE s h lo hi f r)]) ∧ OwnI w' w.heap.size v (hsL s h lo hi f r) ∧ Ext w w' := by
  obtain ⟨l1, l2⟩ := b1
  obtain ⟨i1, i2⟩ := b2
  have h1 := hide (fun w => haveLengths_c s h f r w)
  have h2 := hide (fun w => haveTicks_c s h f r w)
  obtain ⟨Wb, hWb⟩ : ∃ Wb, Wb = (((w.alloc (.cells #[.int .i64 lo, .int .i64 hi] 49)).alloc (.cells #[.slice none 0 0] 78)).alloc (.cells #[.int .i64 0] 28)).alloc (.cells #[.int .i64 s, .int .i64 h, .int .i64 f, .int .i64 r] 82) := ⟨_, rfl⟩
  have hXb := hide (show Ext w Wb by rw [hWb]; exact ((((Ext.refl w).alloc _).alloc _).alloc _).alloc _)
  have a7 := hide (show Ob Wb w.heap.size 49 [.int .i64 lo, .int .i64 hi] by rw [hWb]; exact (((Ob.new w _ [_, _]).alloc _).alloc _).alloc _)
  have a10 := hide (show Ob Wb (w.heap.size + 1) 78 [.slice none 0 0] by rw [hWb]; have := Ob.new (w.alloc (.cells #[.int .i64 lo, .int .i64 hi] 49)) 78 [.slice none 0 0]; rw [World.size_alloc] at this; exact (this.alloc _).alloc _)
  have a11 := hide (show Ob Wb (w.heap.size + 2) 28 [.int .i64 0] by rw [hWb]; have := Ob.new ((w.alloc (.cells #[.int .i64 lo, .int .i64 hi] 49)).alloc (.cells #[.slice none 0 0] 78)) 28 [.int .i64 0]; rw [World.size_alloc, World.size_alloc] at this; exact this.alloc _)
  have a12 := hide (show Ob Wb (w.heap.size + 3) 82 [.int .i64 s, .int .i64 h, .int .i64 f, .int .i64 r] by rw [hWb]; have := Ob.new (((w.alloc (.cells #[.int .i64 lo, .int .i64 hi] 49)).alloc (.cells #[.slice none 0 0] 78)).alloc (.cells #[.int .i64 0] 28)) 82 [.int .i64 s, .int .i64 h, .int .i64 f, .int .i64 r]; rw [World.size_alloc, World.size_alloc, World.size_alloc] at this; exact this)
  replace hWb := hide hWb
  refine calls_marks Tryz.func52 rfl ?_
  simp only [Tryz.ntmps52, List.size_toArray, List.length_cons, List.length_nil, Nat.reduceAdd, Nat.reduceSub, Array.replicate_succ, Array.replicate_zero, List.push_toArray, List.append_toArray, List.nil_append, List.cons_append]
  cases ab : (hlen s && hlen h)
  · rw [ab] at h1
    have e1 : hsE s h lo hi f r = 2 := by unfold hsE; rw [if_pos (by simpa using ab)]
    have e2 : hsL s h lo hi f r = [] := by unfold hsL; rw [e1, if_neg (by decide)]
    rw [e1, e2]
    clear ab e1 e2
    go_wp2_with (go_at_call 53; first | ((with_reducible refine seq_gw' (h1.out _) ?_); intro g1) | ((with_reducible refine seq_gw (h1.out _) ?_); intro g1))
    have hg : Ext Wb g1.val := by rw [hWb.out]; exact g1.grown
    have y10 : Ob ((g1.val.setCell ⟨w.heap.size + 1, 0, none⟩ (.slice none 0 0)).setCell ⟨w.heap.size + 2, 0, none⟩ (.int .i64 2)) (w.heap.size + 1) 78 [.slice none 0 0] := ((a10.out.ext hg).set 0 _).far _ _ (by simp)
    have y11 : Ob ((g1.val.setCell ⟨w.heap.size + 1, 0, none⟩ (.slice none 0 0)).setCell ⟨w.heap.size + 2, 0, none⟩ (.int .i64 2)) (w.heap.size + 2) 28 [.int .i64 2] := ((a11.out.ext hg).far ⟨w.heap.size + 1, 0, none⟩ _ (by simp)).set 0 _
    have q10 := y10.cell 0 rfl
    have q11 := y11.cell 0 rfl
    exact hret_plain (v := .tuple #[.slice none 0 0, .int .i64 2]) (by simp [results, Tryz.f52, go_sem, q10, q11]) ⟨_, rfl, World.ownsRow_nil _ _ _ _, ((hXb.out.trans hg).setCell (p := ⟨w.heap.size + 1, 0, none⟩) (by show w.heap.size ≤ w.heap.size + 1; omega) _).setCell (p := ⟨w.heap.size + 2, 0, none⟩) (by show w.heap.size ≤ w.heap.size + 2; omega) _⟩
  rw [ab] at h1
  rw [Bool.and_eq_true] at ab
  cases cfr : (htick f && htick r)
  · rw [cfr] at h2
    have e1 : hsE s h lo hi f r = 13 := by unfold hsE; rw [if_neg (fun e => e ab), if_pos (by simpa using cfr)]
    have e2 : hsL s h lo hi f r = [] := by unfold hsL; rw [e1, if_neg (by decide)]
    rw [e1, e2]
    clear ab cfr e1 e2
    go_wp2_with (first | (go_at_call 53; first | ((with_reducible refine seq_gw' (h1.out _) ?_); intro g1) | ((with_reducible refine seq_gw (h1.out _) ?_); intro g1)) | (go_at_call 55; first | ((with_reducible refine seq_gw' (h2.out _) ?_); intro g2) | ((with_reducible refine seq_gw (h2.out _) ?_); intro g2)))
    have hg : Ext Wb g2.val := by rw [hWb.out]; first | exact g2.grown | exact g1.grown.trans g2.grown
    have y10 : Ob ((g2.val.setCell ⟨w.heap.size + 1, 0, none⟩ (.slice none 0 0)).setCell ⟨w.heap.size + 2, 0, none⟩ (.int .i64 13)) (w.heap.size + 1) 78 [.slice none 0 0] := ((a10.out.ext hg).set 0 _).far _ _ (by simp)
    have y11 : Ob ((g2.val.setCell ⟨w.heap.size + 1, 0, none⟩ (.slice none 0 0)).setCell ⟨w.heap.size + 2, 0, none⟩ (.int .i64 13)) (w.heap.size + 2) 28 [.int .i64 13] := ((a11.out.ext hg).far ⟨w.heap.size + 1, 0, none⟩ _ (by simp)).set 0 _
    have q10 := y10.cell 0 rfl
    have q11 := y11.cell 0 rfl
    exact hret_plain (v := .tuple #[.slice none 0 0, .int .i64 13]) (by simp [results, Tryz.f52, go_sem, q10, q11]) ⟨_, rfl, World.ownsRow_nil _ _ _ _, ((hXb.out.trans hg).setCell (p := ⟨w.heap.size + 1, 0, none⟩) (by show w.heap.size ≤ w.heap.size + 1; omega) _).setCell (p := ⟨w.heap.size + 2, 0, none⟩) (by show w.heap.size ≤ w.heap.size + 2; omega) _⟩
  rw [cfr] at h2
  rw [Bool.and_eq_true] at cfr
  by_cases hsp : lo < -1 ∨ hi ≤ lo ∨ 1125899906842624 < hi
  · have e1 : hsE s h lo hi f r = 14 := by unfold hsE; rw [if_neg (fun e => e ab), if_neg (fun e => e cfr), if_pos hsp]
    have e2 : hsL s h lo hi f r = [] := by unfold hsL; rw [e1, if_neg (by decide)]
    rw [e1, e2]
    clear ab cfr e1 e2
    by_cases p1 : lo < -1 <;> by_cases p2 : hi ≤ lo <;> by_cases p3 : 1125899906842624 < hi
    all_goals first | (exfalso; omega) | skip
    all_goals
      go_wp2_with (first | (go_at_call 53; first | ((with_reducible refine seq_gw' (h1.out _) ?_); intro g1) | ((with_reducible refine seq_gw (h1.out _) ?_); intro g1)) | (go_at_call 55; first | ((with_reducible refine seq_gw' (h2.out _) ?_); intro g2) | ((with_reducible refine seq_gw (h2.out _) ?_); intro g2)))
      have hg : Ext Wb g2.val := by rw [hWb.out]; first | exact g2.grown | exact g1.grown.trans g2.grown
      have y10 : Ob ((g2.val.setCell ⟨w.heap.size + 1, 0, none⟩ (.slice none 0 0)).setCell ⟨w.heap.size + 2, 0, none⟩ (.int .i64 14)) (w.heap.size + 1) 78 [.slice none 0 0] := ((a10.out.ext hg).set 0 _).far _ _ (by simp)
      have y11 : Ob ((g2.val.setCell ⟨w.heap.size + 1, 0, none⟩ (.slice none 0 0)).setCell ⟨w.heap.size + 2, 0, none⟩ (.int .i64 14)) (w.heap.size + 2) 28 [.int .i64 14] := ((a11.out.ext hg).far ⟨w.heap.size + 1, 0, none⟩ _ (by simp)).set 0 _
      have q10 := y10.cell 0 rfl
      have q11 := y11.cell 0 rfl
      exact hret_plain (v := .tuple #[.slice none 0 0, .int .i64 14]) (by simp [results, Tryz.f52, go_sem, q10, q11]) ⟨_, rfl, World.ownsRow_nil _ _ _ _, ((hXb.out.trans hg).setCell (p := ⟨w.heap.size + 1, 0, none⟩) (by show w.heap.size ≤ w.heap.size + 1; omega) _).setCell (p := ⟨w.heap.size + 2, 0, none⟩) (by show w.heap.size ≤ w.heap.size + 2; omega) _⟩
  have p1 : ¬ lo < -1 := by omega
  have p2 : ¬ hi ≤ lo := by omega
  have p3 : ¬ 1125899906842624 < hi := by omega
  have h3 := hide (fun w => sharing_c s h f r lo hi ab.1 ab.2 cfr.1 cfr.2 (by omega) (by omega) w)
  obtain ⟨k1, k2⟩ := hlen_iff.1 ab.2
  have e1 : hsE s h lo hi f r = if 1024 < (hW s h lo hi f r).length then 7 else 0 := by unfold hsE; rw [if_neg (fun e => e ab), if_neg (fun e => e cfr), if_neg hsp]
  have e2 : hsL s h lo hi f r = if 1024 < (hW s h lo hi f r).length then [] else hW s h lo hi f r := by
    unfold hsL
    rw [e1]
    by_cases c : 1024 < (hW s h lo hi f r).length
    · rw [if_pos c, if_pos c, if_neg (by decide)]
    · rw [if_neg c, if_neg c, if_pos rfl]
  rw [e1, e2]
  have hT1 : hW s h lo hi f r = hT h (hA s h f lo) (hZ r hi) := rfl
  have hbd : ∀ x, 0 ≤ hbeg h x ∧ hbeg h x ≤ 1125899906842624 := fun x => by
    have k5 := Int.mul_nonneg (hcnt_in (h := h) (x := x) k1).1 (show (0 : Int) ≤ h by omega)
    unfold hbeg
    split <;> omega
  have hAin : 0 ≤ hA s h f lo ∧ hA s h f lo ≤ 1125899906842624 := by unfold hA; exact hbd _
  have hZin : hZ r hi ≤ 1125899906842624 := by unfold hZ; split <;> omega
  generalize hA s h f lo = a at *
  generalize hZ r hi = e at *
  generalize hW s h lo hi f r = T at *
  obtain ⟨EE, hEE⟩ : ∃ EE : Int, EE = if 1024 < T.length then 7 else 0 := ⟨_, rfl⟩
  obtain ⟨LL, hLL⟩ : ∃ LL : List Int, LL = if 1024 < T.length then [] else T := ⟨_, rfl⟩
  rw [← hEE, ← hLL]
  replace hEE := hide hEE
  replace hLL := hide hLL
  replace hT1 := hide hT1
  have hhl := hide ab.2
  clear e1 e2 ab cfr hsp
  go_wp2_with (first | (go_at_call 53; first | ((with_reducible refine seq_gw' (h1.out _) ?_); intro g1) | ((with_reducible refine seq_gw (h1.out _) ?_); intro g1)) | (go_at_call 55; first | ((with_reducible refine seq_gw' (h2.out _) ?_); intro g2) | ((with_reducible refine seq_gw (h2.out _) ?_); intro g2)) | (go_at_call 104; refine (h3.out _).mono ?_; rintro ee w1 ⟨ba, be, bw, rfl, oa, oe, ow, la, le, lw, hX1⟩))
  have hg : Ext Wb g2.val := by rw [hWb.out]; first | exact g2.grown | exact g1.grown.trans g2.grown
  have o10 : Ob w1 (w.heap.size + 1) 78 [.slice none 0 0] := ((a10.out.ext hg).alloc _).ext hX1
  have o11 : Ob w1 (w.heap.size + 1 + 1) 28 [.int .i64 0] := ((a11.out.ext hg).alloc _).ext hX1
  have o13 : Ob w1 g2.val.heap.size 78 [.slice none 0 0] := (Ob.new g2.val 78 [.slice none 0 0]).ext hX1
  have hXw : Ext w w1 := ((hXb.out.trans hg).alloc _).trans hX1
  have hsg : w.heap.size + 1 + 1 + 1 + 1 ≤ g2.val.heap.size := by have := hg.size; rw [hWb.out] at this; simpa [World.size_alloc] using this
  have la' : g2.val.heap.size + 1 ≤ ba := by simpa [World.size_alloc] using la
  have le' : g2.val.heap.size + 1 ≤ be := by simpa [World.size_alloc] using le
  have lw' : g2.val.heap.size + 1 ≤ bw := by simpa [World.size_alloc] using lw
  have hzw := hXw.size
  generalize hb13 : g2.val.heap.size = b13 at *
  generalize hb10 : w.heap.size + 1 = b10 at *
  generalize hb11 : b10 + 1 = b11 at *
  have hwb : w.heap.size ≤ b10 := by omega
  have d1011 : b10 ≠ b11 := by omega
  have d1013 : b10 ≠ b13 := by omega
  have d1113 : b11 ≠ b13 := by omega
  have hseq := sharing_seq [b10, b11, b13] s h f r a e w1 w1 ba be bw hhl.out hAin hZin (Ext.refl _) oa oe ow (by simp; omega) (by simp; omega) (by simp; omega)
  rw [← hT1.out] at hseq
  refine wp_rangeX (X := [b10, b11, b13]) (xs := T) rfl (enters_of Tryz.func144 (by kernel_rfl) rfl) hseq (Ext.refl _) (Nat.le_refl _) (fun x vs W h => by rw [h]; rfl) (fun x vs => Stab.pure _)
    (IHop w b10 b11 b13 w1.heap.size T) (IxHop w b10 b11 T)
    (fun k => IHop.stab w _ _ _ _ _ k _ hzw) (fun c k => IxHop.stab w _ _ _ c k _ hzw)
    ⟨⟨o10, o11⟩, ⟨_, o13, World.ownsRow_nil _ _ _ _⟩, by omega, hXw, Nat.le_refl _⟩
    (fun k x vs a' _ => a' = { tmps := #[.int .i64 s, .int .i64 h, .agg #[.int .i64 lo, .int .i64 hi], .int .i64 f, .int .i64 r, undef, undef, .pointer (some ⟨w.heap.size, 0, none⟩), undef, undef, .pointer (some ⟨b10, 0, none⟩), .pointer (some ⟨b11, 0, none⟩), .pointer (some ⟨b11 + 1, 0, none⟩), .pointer (some ⟨b13, 0, none⟩), .int .i64 x, .int .i64 s, .int .i64 h, .int .i64 f, .int .i64 r, .agg #[.int .i64 s, .int .i64 h, .int .i64 f, .int .i64 r], .agg #[.int .i64 s, .int .i64 h, .int .i64 f, .int .i64 r], .bool true, .bool false, .agg #[.int .i64 s, .int .i64 h, .int .i64 f, .int .i64 r], .bool true, .bool false, .pointer (some ⟨w.heap.size, 0, none⟩), .int .i64 lo, .bool (decide (lo < -1)), .bool (decide (lo < -1)), .pointer (some ⟨w.heap.size, 1, none⟩), .int .i64 hi, .pointer (some ⟨w.heap.size, 0, none⟩), .int .i64 lo, .bool (decide (hi ≤ lo)), .bool (decide (lo < -1) || decide (hi ≤ lo)), .bool (decide (lo < -1) || decide (hi ≤ lo)), .pointer (some ⟨w.heap.size, 1, none⟩), .int .i64 hi, .bool (decide (1125899906842624 < hi)), .bool (decide (lo < -1) || decide (hi ≤ lo) || decide (1125899906842624 < hi)), .agg #[.int .i64 s, .int .i64 h, .int .i64 f, .int .i64 r], .agg #[.int .i64 lo, .int .i64 hi], .func (.func 144) #[] #[.pointer (some ⟨ba, 0, none⟩), .pointer (some ⟨be, 0, none⟩), .pointer (some ⟨bw, 0, none⟩)], .int .i64 x, undef, undef, undef, undef, undef, undef, undef, undef], defers := [] })
    (fun k x vs a' => Stab.pure _) ?assign ?body ?done ?stop
  case assign =>
    rintro LLL k x vs W K _ rfl hK
    gi_wp2
    exact hK _ _ (Ext.refl _) rfl
  case body =>
    rintro LLL k x vs a' W hx ⟨⟨o2, o3⟩, ⟨mv, o4, ho⟩, hkl, hXk, h1W⟩ rfl rfl
    have hkT : k < T.length := (List.getElem?_eq_some_iff.1 hx).1
    have hkl2 : (T.take k).length = k := by rw [List.length_take]; omega
    have hnx := hide (show T.take (k + 1) = T.take k ++ [x] by rw [List.take_add_one, hx]; rfl)
    have k4 := o4.cell 0 rfl
    have l2 := o2.lt
    have l3 := o3.lt
    have l4 := o4.lt
    have hno := Ob.not_own o4 ho (by decide)
    have hobg := ob_ge ho
    haveI : In b10 W := ⟨l2⟩
    haveI : In b11 W := ⟨l3⟩
    haveI : In b13 W := ⟨l4⟩
    obtain ⟨MA, mcap, rfl⟩ := own_form ho
    unfold OwnI at ho
    rw [hkl2] at ho hno hobg k4 o4
    have ho' := hide ho
    have o4' := hide o4
    have o2' := hide o2
    have o3' := hide o3
    have hXk' := hide hXk
    replace hkl2 := hide hkl2
    clear ho o4 hXk hx
    by_cases hfull : k = 1024
    · have hT4 : 1024 < T.length := by omega
      subst hfull
      have fr2 := o2.free 0
      have fr3 := o3.free 0
      have k2 := o2.cell 0 rfl
      have k3 := o3.cell 0 rfl
      clear o2 o3
      gi_wp2_with fail
      have z2 : Ob ((W.setCell ⟨b10, 0, none⟩ (.slice none 0 0)).setCell ⟨b11, 0, none⟩ (.int .i64 7)) b10 78 [.slice none 0 0] := (o2'.out.set 0 _).far _ _ d1011
      have z3 : Ob ((W.setCell ⟨b10, 0, none⟩ (.slice none 0 0)).setCell ⟨b11, 0, none⟩ (.int .i64 7)) b11 28 [.int .i64 7] := (o3'.out.far ⟨b10, 0, none⟩ _ (Ne.symm d1011)).set 0 _
      have hmem : ∀ y ∈ [b10, b11], ∃ T vs, Ob W y T vs := by
        intro y hy
        simp only [List.mem_cons, List.not_mem_nil, or_false] at hy
        rcases hy with rfl | rfl
        · exact ⟨_, _, o2'.out⟩
        · exact ⟨_, _, o3'.out⟩
      exact ⟨keeps_fr (S := [b10, b11]) (((Fr.refl _ W).setCell ⟨b10, 0, none⟩ _ (.inl (by simp))).setCell ⟨b11, 0, none⟩ _ (.inl (by simp))) hmem, ⟨rfl, hT4⟩, ⟨z2, z3⟩, (hXk'.out.setCell (p := ⟨b10, 0, none⟩) hwb _).setCell (p := ⟨b11, 0, none⟩) (by show w.heap.size ≤ b11; omega) _⟩
    · have hkI : ¬ (k : Int) = 1024 := by omega
      have hkb : ((k : Int) == 1024) = false := beq_eq_false_iff_ne.2 hkI
      clear o2 o3
      gi_wp2_with (refine hplIn_app tHop rfl (.tmp 48) (.tmp 50) rfl rfl (own_ext ho'.out ((Ext.refl W).alloc _)) rfl (src_one Tryz.underlying78 W _ _ rfl) (by unfold maxLen; omega) (by omega) (by simp only [World.size_alloc]; omega) ?_; intro v8 w8 ho8 hg8 hob8; have o8 := (o4'.out.alloc (.cells #[.int .i64 x] 3)).grown hg8 (Ne.symm hno); have k8 := o8.cell 0 rfl; have fr8 := o8.free 0; have l8 := o8.lt; haveI : In b13 w8 := ⟨l8⟩; replace o8 := hide o8; obtain ⟨A8, c8, q8⟩ := own_form ho8; subst q8)
      have hS : ∀ y ∈ b13 :: ob (.slice MA k mcap), y = b13 ∨ w1.heap.size ≤ y := fun y hy => (List.mem_cons.1 hy).imp id (fun h => (hobg y h).1)
      have hF : Fr (b13 :: ob (.slice MA k mcap)) W (w8.setCell ⟨b13, 0, none⟩ (.slice A8 (k + 1) c8)) := ((((Fr.refl _ W).alloc _).grown hg8 (fun j hj => .inl (List.mem_cons_of_mem _ (by unfold ob; rw [show (Value.slice MA k mcap).ownBlock = some j from hj]; exact List.mem_singleton.2 rfl)))).setCell ⟨b13, 0, none⟩ _ (.inl (by simp)))
      have hown : OwnI (w8.setCell ⟨b13, 0, none⟩ (.slice A8 (k + 1) c8)) w1.heap.size (.slice A8 (k + 1) c8) (T.take (k + 1)) := by
        have h1 := own_fr ho8 ((Fr.refl [b13] w8).setCell ⟨b13, 0, none⟩ (.slice A8 (k + 1) c8) (.inl (by simp))) (by intro y hy; rw [List.mem_singleton.1 hy]; exact o13.lt)
        rw [hnx.out]
        unfold OwnI
        rw [List.length_append, hkl2.out, List.length_singleton, ic1, List.map_append]
        exact h1
      have o9 := o8.out.set 0 (.slice A8 (k + 1) c8)
      have hge : ∀ y ∈ b13 :: ob (.slice MA k mcap), y ≠ b10 ∧ y ≠ b11 ∧ w.heap.size ≤ y := fun y hy => by
        have h10 := o10.lt
        have h11 := o11.lt
        rcases hS y hy with h | h <;> omega
      refine ⟨keeps_fr hF (fun y hy => ?_), belX_fr hF h1W (fun y hy => ?_), ⟨o2'.out.fr hF (fun hm => (hge _ hm).1 rfl), o3'.out.fr hF (fun hm => (hge _ hm).2.1 rfl)⟩, ⟨_, o9, hown⟩, by omega, ext_fr hXk'.out hF (fun y hy => (hge y hy).2.2), Nat.le_trans h1W hF.size⟩
      · rcases List.mem_cons.1 hy with rfl | hy
        · exact ⟨_, _, o4'.out⟩
        · exact ob_objH ho'.out y hy
      · rcases hS y hy with h | h
        · exact .inr (by simp [h])
        · exact .inl h
  case done =>
    rintro D W hD ⟨⟨o2, o3⟩, ⟨mv, o4, ho⟩, hkl, hXk, h1W⟩ hK
    rw [List.take_length] at ho
    have e7 : EE = 0 := by rw [hEE.out, if_neg (show ¬ 1024 < T.length by omega)]
    have e8 : LL = T := by rw [hLL.out, if_neg (show ¬ 1024 < T.length by omega)]
    replace e7 := hide e7
    replace e8 := hide e8
    have q2 := o2.cell 0 rfl
    have q3 := o3.cell 0 rfl
    have q4 := o4.cell 0 rfl
    have f2 := o2.free 0
    have f3 := o3.free 0
    have l2 := o2.lt
    have l3 := o3.lt
    have l4 := o4.lt
    haveI : In b10 W := ⟨l2⟩
    haveI : In b11 W := ⟨l3⟩
    haveI : In b13 W := ⟨l4⟩
    obtain ⟨MA, mcap, rfl⟩ := own_form ho
    have ho' := hide ho
    have o2' := hide o2
    have o3' := hide o3
    have hXk' := hide hXk
    have hK' := hide hK
    clear ho o2 o3 o4 hXk hK
    go_wp2_with fail
    have y2 : Ob ((W.setCell ⟨b10, 0, none⟩ (.slice MA T.length mcap)).setCell ⟨b11, 0, none⟩ (.int .i64 0)) b10 78 [(.slice MA T.length mcap)] := (o2'.out.set 0 _).far _ _ d1011
    have y3 : Ob ((W.setCell ⟨b10, 0, none⟩ (.slice MA T.length mcap)).setCell ⟨b11, 0, none⟩ (.int .i64 0)) b11 28 [.int .i64 0] := (o3'.out.far ⟨b10, 0, none⟩ _ (Ne.symm d1011)).set 0 _
    have hF2 : Fr [b10, b11] W ((W.setCell ⟨b10, 0, none⟩ (.slice MA T.length mcap)).setCell ⟨b11, 0, none⟩ (.int .i64 0)) := ((Fr.refl [b10, b11] W).setCell ⟨b10, 0, none⟩ _ (.inl (by simp))).setCell ⟨b11, 0, none⟩ _ (.inl (by simp))
    have hin12 : ∀ x ∈ [b10, b11], x < w1.heap.size := by have h8 := o10.lt; have h9 := o11.lt; intro x hx; simp only [List.mem_cons, List.not_mem_nil, or_false] at hx; omega
    have hK2 := (KeepsOthers.setCell (W.setCell ⟨b10, 0, none⟩ (.slice MA T.length mcap)) ⟨b11, 0, none⟩ (.int .i64 0)).same D _ ((KeepsOthers.setCell W ⟨b10, 0, none⟩ (.slice MA T.length mcap)).same D _ hK'.out rfl) rfl
    have z2 := (ob_put (o' := .deferred none) hK2 rfl y2).cell 0 rfl
    have z3 := (ob_put (o' := .deferred none) hK2 rfl y3).cell 0 rfl
    have hM2 : OwnI (((W.setCell ⟨b10, 0, none⟩ (.slice MA T.length mcap)).setCell ⟨b11, 0, none⟩ (.int .i64 0)).putObj D (.deferred none)) w1.heap.size (.slice MA T.length mcap) T := (Stab.own (B := 0) _ _ _ _ _ _).put _ D _ _ (own_fr ho'.out hF2 hin12) (Nat.zero_le _) hK2 rfl
    rw [e7.out, e8.out]
    refine ret_mark hK2 (v := .tuple #[(.slice MA T.length mcap), .int .i64 0]) ?_ ⟨_, rfl, own_base hM2 hzw, put_ext ((hXk'.out.setCell (p := ⟨b10, 0, none⟩) hwb _).setCell (p := ⟨b11, 0, none⟩) (by show w.heap.size ≤ b11; omega) _) (by omega) _⟩
    simp [results, Tryz.f52, go_sem, z2, z3]
  case stop =>
    rintro D c k W hD hk ⟨⟨rfl, h4⟩, ⟨o2, o3⟩, hXk⟩ hK
    have hK' := hide hK
    go_wp2
    have z2 := (ob_put (o' := .deferred none) hK'.out rfl o2).cell 0 rfl
    have z3 := (ob_put (o' := .deferred none) hK'.out rfl o3).cell 0 rfl
    have e7 : EE = 7 := by rw [hEE.out, if_pos h4]
    have e8 : LL = [] := by rw [hLL.out, if_pos h4]
    rw [e7, e8]
    refine ret_mark hK'.out (v := .tuple #[.slice none 0 0, .int .i64 7]) ?_ ⟨_, rfl, World.ownsRow_nil _ _ _ _, put_ext hXk (by omega) _⟩
    simp [results, Tryz.f52, go_sem, z2, z3]
end Go.Proofs.YtljkneajdndgjaaGreat
