/-
  A helper of ours: no claim of its own. Layer 9 (step): the document's side: places, what is told by values, jumps put together.
-/
import Derived.Test.YtljkneajdndgjaaGreatReg
import Derived.Test.YtljkneajdndgjaaGreatStepE
set_option linter.unusedVariables false
set_option linter.unusedSimpArgs false
namespace Go.Proofs.YtljkneajdndgjaaGreat
open Go.RowKit

section
variable {P : Program} {ops : Array Oper} {Φ : Nat → Value → World → Prop} {Q : Exit → Act → World → Prop} {a : Act} {W : World}
theorem cntF_pos : ∀ (l : List Bool) (i : Nat), l[i]? = some false → 0 < cntF l := by
  intro l i h
  have := cntF_set l i h
  omega
theorem cntF_some : ∀ (l : List Bool), 0 < cntF l → ∃ i : Nat, l[i]? = some false := by
  intro l h
  refine Classical.byContradiction fun hn => ?_
  have : ∀ l : List Bool, (∀ i : Nat, l[i]? ≠ some false) → cntF l = 0 := by
    intro l
    induction l with
    | nil => intro _; rfl
    | cons b r ih =>
      intro hb
      have h0 := hb 0
      have hr := ih fun i => by have := hb (i + 1); simpa using this
      cases b
      · simp at h0
      · simpa [cntF] using hr
  have := this l fun i e => hn ⟨i, e⟩
  omega
theorem wpAny_facts_tail {n : Nat} (hA : acycB ops = true) (hD : dstsB ops a.tmps.size = true) (hn : n < ops.size) (hs : Region.sinkB .any ops n = true) (hc : Region.chainB .any ops n = true)
    (hq : Region.seqB .any ops (ops.size - n) n (Array.replicate n true ++ Array.replicate (ops.size - n) false) = true)
    (hst : ∀ i v w w', Φ i v w → Ext w w' → Φ i v w')
    (hstep : ∀ i o, i < n → ops[i]? = some o → ∀ b w, RAt ops Φ a W i b w → (∀ t, t ∉ dstsOf (ops.toList.take n).toArray → b.tmps.getD t undef = a.tmps.getD t undef) → RGood P ops Φ Q i o b w)
    (hend : ∀ b w, Ext W w → b.defers = a.defers → b.tmps.size = a.tmps.size → (∀ t, t ∉ dstsOf ops → b.tmps.getD t undef = a.tmps.getD t undef) →
      (∀ j o d, j < n → ops[j]? = some o → o.dst = some d → Φ j (b.tmps.getD d undef) w) → (∀ t, t ∉ dstsOf (ops.toList.take n).toArray → b.tmps.getD t undef = a.tmps.getD t undef) → wpList P ops Q (ops.toList.drop n) b w) :
    ∀ (f : Nat) (listed : Array Bool) (b : Act) (w : World), RInv ops Φ a W listed b w → (∀ t, t ∉ dstsOf (ops.toList.take n).toArray → b.tmps.getD t undef = a.tmps.getD t undef) → HeadInv .any ops n listed → cntF (listed.toList.take n) = f → wpAny P .any ops Q (f + (ops.size - n)) listed b w := by
  intro f
  induction f with
  | zero =>
    intro listed b w I I2 H hcn
    have hl : ∀ j, j < n → listed.getD j false = true := by
      intro j hj
      have hjl : j < listed.size := by have := I.len; omega
      have e1 := getD_some (l := listed) (d := false) hjl
      cases h : listed.getD j false with
      | true => rfl
      | false =>
        rw [h] at e1
        have := cntF_pos (listed.toList.take n) j (by rw [List.getElem?_take, if_pos hj]; simpa using e1)
        omega
    have hle : listed = Array.replicate n true ++ Array.replicate (ops.size - n) false := by
      have hlen := I.len
      apply Array.ext
      · simp; omega
      · intro i h1 h2
        by_cases hi : i < n
        · have := hl i hi
          have e1 := getD_some (l := listed) (d := false) h1
          rw [this, Array.getElem?_eq_getElem h1] at e1
          rw [Option.some.inj e1, Array.getElem_append_left (by simpa using hi)]; simp
        · have := H.tail i (by omega) (by omega)
          have e1 := getD_some (l := listed) (d := true) h1
          rw [this, Array.getElem?_eq_getElem h1] at e1
          rw [Option.some.inj e1, Array.getElem_append_right (by simp; omega)]; simp
    have hd : (ops.toList.drop n).length = ops.size - n := by simp
    rw [Nat.zero_add, ← hd]
    refine wpAny_of_seq (md := .any) (ops.toList.drop n) n listed b w (fun j => by simp [List.getElem?_drop]) (by rw [hd, hle]; exact hq) ?_
    exact hend b w I.ext I.defers I.size I.else_ (fun j o d hj ho hd => I.fact j o d ho (hl j hj) hd) I2
  | succ f ih =>
    intro listed b w I I2 H hcn
    obtain ⟨i0, hi0⟩ := cntF_some (listed.toList.take n) (by omega)
    have hi0n : i0 < n := by
      rcases Nat.lt_or_ge i0 n with h | h
      · exact h
      · rw [List.getElem?_take, if_neg (by omega)] at hi0; cases hi0
    have hun0 : listed.getD i0 true = false := by
      rw [List.getElem?_take, if_pos hi0n] at hi0
      rw [Array.getD_eq_getD_getElem?]
      simp at hi0
      rw [hi0]; rfl
    rw [show f + 1 + (ops.size - n) = (f + (ops.size - n)) + 1 by omega]
    refine ⟨fun hr => ?_, fun i hi => ?_⟩
    · have := all_listed hA I.len hr i0 (by omega)
      have hjl : i0 < listed.size := by have := I.len; omega
      have e1 := getD_some (l := listed) (d := false) hjl
      have e2 := getD_some (l := listed) (d := true) hjl
      rw [e1] at e2; have e3 := Option.some.inj e2; rw [this, hun0] at e3; cases e3
    · have hin : i < n := by
        rcases Nat.lt_or_ge i n with h | h
        · exact h
        · exact absurd hi (tail_waits hs hc hn H _ i0 rfl hi0n hun0 i h)
      obtain ⟨h1, o, ho, hdep⟩ := mem_ready.1 hi
      have hj := (Array.getElem?_eq_some_iff.1 ho).1
      have hjl : i < listed.size := by have := I.len; omega
      have hat : RAt ops Φ a W i b w := ⟨I.ext, I.defers, I.size, I.else_, fun j p d hd hp hpd => I.fact j p d hp (by
        unfold depB at hd; rw [ho] at hd
        obtain ⟨k, hk, he⟩ := Array.any_eq_true.1 hd
        simp only [Bool.and_eq_true, beq_iff_eq] at he
        have := hdep _ (Array.getElem_mem hk) he.1
        rwa [he.2] at this) hpd⟩
      have hget : (listed.toList.take n)[i]? = some false := by
        rw [List.getElem?_take, if_pos hin]
        have e2 := getD_some (l := listed) (d := true) hjl
        rw [h1] at e2; simpa using e2
      have hcnt : cntF ((listed.setIfInBounds i true).toList.take n) = f := by
        have := cntF_set _ i hget
        simp only [Array.toList_setIfInBounds, List.take_set]; omega
      have go : ∀ (v : Value) (w' : World), Φ i v w' → Ext w w' → wpAny P .any ops Q (f + (ops.size - n)) (listed.setIfInBounds i true) (b.put o.dst v) w' := by
        intro v w' hv hx
        refine ih _ _ _ ⟨I.ext.trans hx, put_defers.trans I.defers, put_size.trans I.size, by simpa using I.len, fun t ht => ?_, fun j p d hp hl hd => ?_⟩ ?_ (H.set hi hin) hcnt
        · rw [put_other, I.else_ t ht]
          intro e
          exact ht (List.mem_filterMap.2 ⟨o, by rw [Array.mem_toList_iff]; exact Array.mem_of_getElem? ho, e⟩)
        · have hds : d < b.tmps.size := by
            rw [I.size]
            have := List.all_eq_true.1 (Bool.and_eq_true_iff.1 hD).1 d (List.mem_filterMap.2 ⟨p, by rw [Array.mem_toList_iff]; exact Array.mem_of_getElem? hp, hd⟩)
            simpa using this
          by_cases hij : i = j
          · subst hij
            rw [ho] at hp; cases hp
            rw [hd, put_same hds]; exact hv
          · have hl' : listed.getD j false = true := by
              rw [Array.getD_eq_getD_getElem?, Array.getElem?_setIfInBounds, if_neg hij] at hl
              rw [Array.getD_eq_getD_getElem?]; exact hl
            have hpj := (Array.getElem?_eq_some_iff.1 hp).1
            have hne : o.dst ≠ some d := by
              intro e
              have h2 := List.all_eq_true.1 (List.all_eq_true.1 (Bool.and_eq_true_iff.1 hD).2 i (List.mem_range.2 hj)) j (List.mem_range.2 hpj)
              simp [hij, ho, hp, e, hd] at h2
            rw [put_other hne]
            exact hst _ _ _ _ (I.fact j p d hp hl' hd) hx
        · intro t ht
          rw [put_other, I2 t ht]
          intro e
          refine ht (List.mem_filterMap.2 ⟨o, ?_, e⟩)
          rw [Array.mem_toList_iff]
          refine Array.mem_of_getElem? (i := i) ?_
          rw [List.getElem?_toArray, List.getElem?_take, if_pos hin]; simpa using ho
      unfold wpOp
      rcases hstep i o hin ho b w hat I2 with ⟨hw, hwp⟩ | ⟨hw, hv⟩
      · simp only [ho, hw, if_true]
        left
        refine Oper.wp_mono ?_ hwp
        rintro b' w' ⟨v, rfl, hv, hx⟩
        exact go v w' hv hx
      · simp only [ho, hw]
        exact go undef w hv (Ext.refl w)
theorem wp_region_list_tail {id : Nat} {w : World} (n : Nat) (L : List Fact) (hm : P.follows .mixedOrders = true) (hA : acycB ops = true) (hD : dstsB ops a.tmps.size = true)
    (hn : decide (n < ops.size) = true) (hs : Region.sinkB .any ops n = true) (hc : Region.chainB .any ops n = true) (hq : Region.seqB .any ops (ops.size - n) n (Array.replicate n true ++ Array.replicate (ops.size - n) false) = true)
    (hstep : RSteps (fun k o => ∀ b w', RAt ops (factsOf L) a w k b w' → (∀ t, t ∉ dstsOf (ops.toList.take n).toArray → b.tmps.getD t undef = a.tmps.getD t undef) → RGood P ops (factsOf L) Q k o b w') 0 (ops.toList.take n))
    (hend : ∀ b w', Ext w w' → b.defers = a.defers → b.tmps.size = a.tmps.size → (∀ t, t ∉ dstsOf (ops.toList.take n).toArray → b.tmps.getD t undef = a.tmps.getD t undef) →
      (∀ j o d, j < n → ops[j]? = some o → o.dst = some d → factsOf L j (b.tmps.getD d undef) w') → wpList P ops Q (ops.toList.drop n) b w') : (Code.region id ops true).wp P Q a w := by
  have hn' := of_decide_eq_true hn
  refine wp_region_any hm ?_
  have := wpAny_facts_tail (P := P) (Φ := factsOf L) (Q := Q) (W := w) hA hD hn' hs hc hq (fun i v w w' h hx => Fact.stays _ v w w' h hx) (fun i o hi ho b w' h hE => by
    have := RSteps.get 0 (ops.toList.take n) hstep i o (by rw [List.getElem?_take, if_pos hi]; simpa using ho) b w'
    rw [Nat.zero_add] at this
    exact this h hE) (fun b w' h1 h2 h3 _ h5 h6 => hend b w' h1 h2 h3 h6 h5) n (Array.replicate ops.size false) a { w with drawn := w.drawn + 1 } ⟨(Ext.refl w).drew, rfl, rfl, by simp, fun _ _ => rfl, fun j o d ho hl _ => ?_⟩ (fun _ _ => rfl)
    ⟨by simp, fun j oj _ hl => (by rw [getD_replicate_false] at hl; cases hl), fun t _ ht => getD_in (by simpa using ht) (getD_replicate_false _ _)⟩ (by
      rw [Array.toList_replicate, List.take_replicate, cntF_rep]; omega)
  · rwa [show n + (ops.size - n) = ops.size by omega] at this
  · rw [getD_replicate_false] at hl; cases hl
theorem good_grow {i : Nat} {o : Oper} {b : Act} {w w' : World} {v : Value} (hg : Region.wanted o (yielded ops b.tmps) = true) (hr : (execOp b.eval o).run P w = .ok (.value v) w') (hΦ : Φ i v w') (hx : Ext w w') : RGood P ops Φ Q i o b w :=
  .inl ⟨hg, by unfold Oper.wp; rw [hr]; exact ⟨v, rfl, hΦ, hx⟩⟩
end
end Go.Proofs.YtljkneajdndgjaaGreat
set_option linter.unusedVariables false
set_option linter.unusedSimpArgs false
namespace Go.Proofs.YtljkneajdndgjaaGreat
open Go.RowKit
attribute [local go_sem] GW.cell GW.frozen In.eq_true In.le_true In.ne In.ne' In.ne_add In.ne_add' In.lt_add Upto.le_true Upto.le_add Upto.lt_add
/-- Whole numbers as cells. -/
def zc (l : List Int) : List Value := l.map fun x => .int .i64 x
theorem zc_len (l : List Int) : (zc l).length = l.length := by unfold zc; rw [List.length_map]
theorem zc_append (l m : List Int) : zc (l ++ m) = zc l ++ zc m := by simp [zc]
abbrev Zw (w : World) (S : List Nat) (v : Value) (l : List Int) : Prop := Sl w S 1 v l.length (zc l)
abbrev OwnZ (w : World) (base : Nat) (v : Value) (l : List Int) : Prop := w.ownsRow base 3 1 v l.length (zc l)
theorem zw_form {w : World} {S : List Nat} {v : Value} {l : List Int} (h : Zw w S v l) : ∃ A cap, v = .slice A l.length cap ∧ l.length ≤ cap ∧ cap ≤ maxLen ∧
    ∀ (i : Nat) (x : Int), l[i]? = some x → ∃ b o, A = some ⟨b, o, none⟩ ∧ b ∉ S ∧ b < w.heap.size ∧ w.cell? ⟨b, o + i, none⟩ = some (.int .i64 x) := by
  obtain ⟨A, cap, rfl, h1, h2, h3, h4⟩ := h
  refine ⟨A, cap, rfl, h1, h2, fun i x hx => ?_⟩
  have hg : (zc l)[i]? = some (.int .i64 x) := by simp [zc, hx]
  rcases h4 with h4 | ⟨b, o, rfl, hb, hc⟩
  · rw [h4] at hg; cases hg
  · have c0 := hc _ _ hg
    exact ⟨b, o, rfl, hb, block_lt_of_cell c0, c0⟩
theorem tZ : ElemT Tryz.prog 78 3 (.int .i64 0) 1 8 := ElemT.mk' Tryz.underlying78 (by kernel_rfl) rfl (by omega)
theorem own_appZ {w : World} {B : Nat} {v : Value} {l : List Int} {x : Int} (h : w.ownsRow B 3 1 v (l.length + 1) (zc l ++ [.int .i64 x])) : OwnZ w B v (l ++ [x]) := by
  unfold OwnZ; rw [List.length_append, zc_append]; exact h
theorem own_zw {w : World} {B : Nat} {v : Value} {l : List Int} (h : OwnZ w B v l) : Zw w [] v l := Sl.own h (by simp)
theorem src_z {P : Program} {tx e' : TypeId} (hk : P.underlying tx = some (.slice e')) (w : World) (B : Nat) (hB : B = w.heap.size) (x : Int) (E : TypeId) : Src P 1 tx (.slice (some ⟨B, 0, none⟩) 1 1) 1 [.int .i64 x] (w.alloc (.cells #[.int .i64 x] E)) := by
  subst hB; exact src_one hk w (.int .i64 x) E rfl
/-- What is in hand while a place is looked for. -/
def wi (p : Bool) (t : Int) (m : List Int) : List Int := if p then m.filter (fun x => decide (x < t)) ++ t :: m.filter (fun x => decide (t < x)) else m
theorem wi_len (p : Bool) (t : Int) (m : List Int) : (wi p t m).length ≤ 2 * m.length + 1 := by
  unfold wi
  split
  · have h1 := List.length_filter_le (fun x => decide (x < t)) m
    have h2 := List.length_filter_le (fun x => decide (t < x)) m
    simp only [List.length_append, List.length_cons]; omega
  · omega
theorem all_lt {m : List Int} {t : Int} (h : ∀ x ∈ m, x < t) : m.filter (fun x => decide (x < t)) = m ∧ m.filter (fun x => decide (t < x)) = [] := by
  constructor
  · exact List.filter_eq_self.2 fun y hy => by simpa using h y hy
  · exact List.filter_eq_nil_iff.2 fun y hy => by have := h y hy; simp; omega
theorem lt_of_asc {l : List Int} (h : l.Pairwise (· < ·)) {k : Nat} {x : Int} (hx : l[k]? = some x) : ∀ y ∈ l.take k, y < x := by
  have e : l = l.take k ++ x :: l.drop (k + 1) := by rw [← jdrop_cons hx, List.take_append_drop]
  rw [e] at h
  intro y hy
  exact (List.pairwise_append.1 h).2.2 y hy x (by simp)
set_option maxHeartbeats 8000000 in
set_option maxRecDepth 100000 in
theorem with_c (l : List Int) (ha : l.Pairwise (· < ·)) (hn : l.length ≤ 4096) (t : Int) (v : Value) (w : World) (h : Zw w [] v l) : Calls Tryz.prog 68 #[v, .int .i64 t] w fun e w' => ∃ v', e = .returned v' ∧ Zw w' [] v' (ins l t) ∧ Ext w w' := by
  have hv := hide h
  obtain ⟨A, cap, rfl, hl, hm, hat⟩ := zw_form h
  unfold maxLen at hm
  replace hat := hide hat
  have hnI : (l.length : Int) ≤ 4096 := by omega
  replace ha := hide ha
  clear h
  obtain ⟨R, hR⟩ : ∃ R, R = ins l t := ⟨_, rfl⟩
  rw [← hR]
  replace hR := hide hR
  have hlit := hide (World.ownsRow_lit (base := w.heap.size) (e := 3) (size := 1) w #[] 0 (Nat.le_refl _) (by decide) rfl)
  go_enter Tryz.func68, Tryz.ntmps68
  go_wp2_with fail
  go_loopg [5, 6, 7] l.length (fun gh u b i wr => ∃ (k : Nat) (p : Bool), i = .int .i64 k ∧ b = .bool p ∧ k + gh = l.length ∧ OwnZ wr w.heap.size u (wi p t (l.take k)) ∧ Hid (t ∉ l.take k) ∧ Hid (p = false → ∀ x ∈ l.take k, x < t) ∧ Hid (p = true → ∃ x ∈ l.take k, t < x) ∧ Ext w wr)
  case atStart => exact ⟨0, false, rfl, rfl, by omega, hlit.out, by simp [Hid], (fun _ x hx => by simp at hx), (fun h => by cases h), (Ext.refl w).alloc _⟩
  case round =>
    obtain ⟨k, p, rfl, rfl, hk, ho, hno, hf, ht, hX⟩ := hrel
    have hzX := hX.size
    have hwl := wi_len p t (l.take k)
    have htl : (l.take k).length ≤ k := by rw [List.length_take]; omega
    by_cases hlt : k < l.length
    · obtain ⟨x, hx⟩ : ∃ x, l[k]? = some x := ⟨_, List.getElem?_eq_getElem hlt⟩
      obtain ⟨b, o, rfl, -, hbl, c0⟩ := hat.out k x hx
      have k0 := jcell_later hX c0
      have hbr : b < wr.heap.size := block_lt_of_cell k0
      have hasc := hide (lt_of_asc ha.out hx)
      have hmem := List.mem_of_getElem? hx
      have hts := take_snoc hx
      have c0h := hide c0
      clear c0
      by_cases hxt : x = t
      · subst hxt
        have e : Hid (R = l) := by show _ = _; rw [hR.out]; unfold ins; rw [if_pos hmem]
        have hl' := hide (Sl.ext hv.out hX)
        clear hmem hts hwl htl
        go_wp2_with fail
        go_returns
        rw [e.out]
        exact ⟨_, rfl, hl'.out, hX⟩
      · have hxb : (x == t) = false := by simp [hxt]
        have hno' : Hid (t ∉ l.take (k + 1)) := by
          show ¬ _
          rw [hts]
          intro h'
          rcases List.mem_append.1 h' with h' | h'
          · exact hno.out h'
          · simp only [List.mem_singleton] at h'; exact hxt h'.symm
        by_cases hlt2 : t < x
        · have ht' : Hid (∃ y ∈ l.take (k + 1), t < y) := ⟨x, by rw [hts]; simp, hlt2⟩
          cases p
          · -- the place is put ahead of x
            have hall := hf.out rfl
            have e0 : wi false t (l.take k) = l.take k := rfl
            have e1 : wi true t (l.take (k + 1)) = (l.take k ++ [t]) ++ [x] := by
              unfold wi
              rw [if_pos rfl, hts, List.filter_append, List.filter_append, (all_lt hall).1, (all_lt hall).2]
              simp [hlt2, show ¬ x < t by omega]
            rw [e0] at ho
            obtain ⟨C, ccap, rfl⟩ := own_form ho
            have lk : (l.take k).length ≤ 4096 := by omega
            generalize l.take k = pre at *
            replace ho := hide ho
            replace e1 := hide e1
            replace hxt := hide hxt
            clear e0 hwl hts hall hmem hf ht
            go_wp2_with (first
              | (at_builtin; (refine wpl_app tZ rfl (.tmp 32) (.tmp 34) rfl rfl (own_ext ho.out ((Ext.refl wr).alloc _)) rfl (src_z Tryz.underlying78 wr _ rfl t _) (by unfold maxLen; omega) (by omega) (by simp only [World.size_alloc]; omega) ?_; intro v7 w7 ho7 hg7 _; have hX7 := hide (ext_grown (hX.alloc _) hg7 (fun k hk => (ho.out.lt k hk).1)); replace ho7 := hide (own_appZ ho7); have hz7 := hX7.out.size; have j0 := jcell_later hX7.out c0h.out))
              | (at_builtin; (refine wpl_app tZ rfl (.tmp 36) (.tmp 41) rfl rfl (own_ext ho7.out ((Ext.refl w7).alloc _)) rfl (src_z Tryz.underlying78 w7 _ rfl x _) (by unfold maxLen; simp only [List.length_append, List.length_singleton]; omega) (by simp only [List.length_append, List.length_singleton]; omega) (by simp only [World.size_alloc]; omega) ?_; intro v8 w8 ho8 hg8 _)))
            go_roundg (l.length - (k + 1))
            case measure => omega
            case rel => exact ⟨k + 1, true, by go_num, rfl, by omega, by rw [e1.out]; exact own_appZ ho8, hno', (fun h => by cases h), (fun _ => ht'.out), ext_grown (hX7.out.alloc _) hg8 (fun k hk => (ho7.out.lt k hk).1)⟩
          · have e1 : wi true t (l.take (k + 1)) = wi true t (l.take k) ++ [x] := by
              unfold wi
              rw [if_pos rfl, if_pos rfl, hts, List.filter_append, List.filter_append]
              simp [hlt2, show ¬ x < t by omega]
            obtain ⟨C, ccap, rfl⟩ := own_form ho
            generalize wi true t (l.take k) = acc at *
            replace ho := hide ho
            replace e1 := hide e1
            replace hxt := hide hxt
            clear hts hmem hf ht
            go_wp2_with (at_builtin; (refine wpl_app tZ rfl (.tmp 36) (.tmp 41) rfl rfl (own_ext ho.out ((Ext.refl wr).alloc _)) rfl (src_z Tryz.underlying78 wr _ rfl x _) (by unfold maxLen; omega) (by omega) (by simp only [World.size_alloc]; omega) ?_; intro v8 w8 ho8 hg8 _))
            go_roundg (l.length - (k + 1))
            case measure => omega
            case rel => exact ⟨k + 1, true, by go_num, rfl, by omega, by rw [e1.out]; exact own_appZ ho8, hno', (fun h => by cases h), (fun _ => ht'.out), ext_grown (hX.alloc _) hg8 (fun k hk => (ho.out.lt k hk).1)⟩
        · have hp : p = false := by
            cases p
            · rfl
            · obtain ⟨y, hy, hy2⟩ := ht.out rfl
              have := hasc.out y hy
              omega
          subst hp
          have d : decide (t < x) = false := by rw [decide_eq_false_iff_not]; exact hlt2
          have hall := hf.out rfl
          have hf' : Hid (∀ y ∈ l.take (k + 1), y < t) := fun y hy => by
            rw [hts] at hy
            rcases List.mem_append.1 hy with hy | hy
            · exact hall y hy
            · simp only [List.mem_singleton] at hy; subst hy; omega
          have e1 : wi false t (l.take (k + 1)) = wi false t (l.take k) ++ [x] := hts
          obtain ⟨C, ccap, rfl⟩ := own_form ho
          generalize wi false t (l.take k) = acc at *
          replace ho := hide ho
          replace e1 := hide e1
          replace hxt := hide hxt
          clear hts hmem hf ht hlt2 hall
          go_wp2_with (at_builtin; (refine wpl_app tZ rfl (.tmp 36) (.tmp 41) rfl rfl (own_ext ho.out ((Ext.refl wr).alloc _)) rfl (src_z Tryz.underlying78 wr _ rfl x _) (by unfold maxLen; omega) (by omega) (by simp only [World.size_alloc]; omega) ?_; intro v8 w8 ho8 hg8 _))
          go_roundg (l.length - (k + 1))
          case measure => omega
          case rel => exact ⟨k + 1, false, by go_num, rfl, by omega, by rw [e1.out]; exact own_appZ ho8, hno', (fun _ => hf'.out), (fun h => by cases h), ext_grown (hX.alloc _) hg8 (fun k hk => (ho.out.lt k hk).1)⟩
    · have hk' : k = l.length := by omega
      have hge : (l.length : Int) ≤ k := by omega
      have htk : l.take k = l := by rw [hk', List.take_length]
      rw [htk] at hno hf ht ho hwl
      have hnotin := hno.out
      replace hk' := hide hk'
      clear htk htl
      cases p
      · have hall := hf.out rfl
        have e1 : Hid (R = l ++ [t]) := by
          show _ = _
          rw [hR.out]
          unfold ins
          rw [if_neg hnotin, (all_lt hall).1, (all_lt hall).2]
        have e0 : wi false t l = l := rfl
        rw [e0] at ho
        obtain ⟨C, ccap, rfl⟩ := own_form ho
        replace ho := hide ho
        clear e0 hall hf ht hno hnotin hwl
        go_wp2_with (at_builtin; (refine wpl_app tZ rfl (.tmp 45) (.tmp 47) rfl rfl (own_ext ho.out ((Ext.refl wr).alloc _)) rfl (src_z Tryz.underlying78 wr _ rfl t _) (by unfold maxLen; omega) (by omega) (by simp only [World.size_alloc]; omega) ?_; intro v8 w8 ho8 hg8 _))
        go_returns
        rw [e1.out]
        exact ⟨_, rfl, own_zw (own_appZ ho8), ext_grown (hX.alloc _) hg8 (fun k hk => (ho.out.lt k hk).1)⟩
      · have e1 : Hid (R = wi true t l) := by
          show _ = _
          rw [hR.out]
          unfold ins wi
          rw [if_neg hnotin, if_pos rfl]
        obtain ⟨C, ccap, rfl⟩ := own_form ho
        replace ho := hide ho
        clear hf ht hno hnotin hwl
        go_wp2_with fail
        go_returns
        rw [e1.out]
        exact ⟨_, rfl, own_zw ho.out, hX⟩
theorem buildJ1 (x : Jp) (w : World) : (Instr.buildSlice 73 1 #[(0, jm x)]).run Tryz.prog w = .ok (.slice (some ⟨w.heap.size, 0, none⟩) 1 1) (w.alloc (.cells #[.int .i64 x.1, .int .i64 x.2] 125)) := by
  simp [go_sem]
def oneJ (x : Jp) : Fact := .st (fun u w => Jw w [] u [x]) (fun _ _ _ h k => Sl.ext h k)
theorem oneJ_new (x : Jp) (w : World) : Jw (w.alloc (.cells #[.int .i64 x.1, .int .i64 x.2] 125)) [] (.slice (some ⟨w.heap.size, 0, none⟩) 1 1) [x] :=
  Sl.own (World.ownsRow_lit (base := w.heap.size) (e := 125) (size := 2) w #[.int .i64 x.1, .int .i64 x.2] 1 (Nat.le_refl _) (by decide) rfl) (by simp)
end Go.Proofs.YtljkneajdndgjaaGreat
