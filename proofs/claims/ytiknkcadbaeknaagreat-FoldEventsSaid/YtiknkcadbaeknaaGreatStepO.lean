/-
  A helper of ours: no claim of its own. Layer 9 (step): jumps put together, by the code.
-/
import Derived.Test.YtiknkcadbaeknaaGreatReg3
import Derived.Test.YtiknkcadbaeknaaGreatBagH
import Derived.Test.YtiknkcadbaeknaaGreatSort
import Derived.StillTail
set_option linter.unusedVariables false
set_option linter.unusedSimpArgs false
namespace Go.Proofs.YtiknkcadbaeknaaGreat
open Go.RowKit
/-- What is asked of an end that is no leave. -/
def onlyN (Q : Exit → Act → World → Prop) : Exit → Act → World → Prop
  | .normal, a, w => Q .normal a w
  | _, _, _ => False
theorem onlyN_out {Q : Exit → Act → World → Prop} (h : LetsOut (onlyN Q)) : False := by obtain ⟨a, w, h⟩ := h; exact h
def noDefer (o : Oper) : Bool := match o.op with | .defer _ => false | _ => true
theorem noDefer_spec {o : Oper} (h : noDefer o = true) : ∀ c, o.op ≠ .defer c := fun c e => by unfold noDefer at h; rw [e] at h; cases h
section
variable {P : Program} {l n : Nat} {ops : Array Oper} {Q : Exit → Act → World → Prop}
theorem opIn_of_op {o : Oper} {a : Act} {w : World} {K : Act → World → Prop} (hd : noDefer o = true) (h : o.wp P a w K (onlyN Q)) : o.wpIn (Fence.wide.inRound l) n P a w K Q := by
  unfold Oper.wpIn
  refine ⟨fun _ _ => trivial, ?_⟩
  rw [show (Fence.wide.inRound l).round = some l from rfl, Oper.semAt_some l _ _ (noDefer_spec hd)]
  unfold Oper.wp at h
  generalize (execOp a.eval o).run P w = r at *
  cases r with
  | ok x w' =>
    cases x <;> simp only [Oper.upon, Oper.uponIn] at h ⊢
    all_goals first
      | exact h
      | exact ⟨fun h => by simp [Fence.wide] at h, in_round (h.mono fun e w'' he => by
          cases e with
          | returned v => exact he
          | panicked ch => exact he.elim
          | outgrown => exact (onlyN_out he).elim)⟩
      | exact ⟨fun h => by simp [Fence.wide] at h, fun c cs _ => let ⟨v, w', r, s⟩ := h c cs; ⟨v, w', r, stepsIn_wide.2 s⟩⟩
  | halt x w' =>
    cases x <;> simp only [Oper.upon, Oper.uponIn] at h ⊢
    all_goals first
      | exact h.elim
      | exact h
theorem anyIn_of_any (hd : ∀ (i : Nat) (o : Oper), ops[i]? = some o → noDefer o = true) : ∀ (f : Nat) (listed : Array Bool) (a : Act) (w : World), wpAny P .any ops (onlyN Q) f listed a w → wpAnyIn (Fence.wide.inRound l) n P .any ops Q f listed a w
  | 0, listed, a, w, h => h
  | f + 1, listed, a, w, h => by
    refine ⟨fun hr => h.1 hr, fun i hi => ?_⟩
    have h2 := h.2 i hi
    unfold wpOp at h2
    unfold wpOpIn
    split
    · rename_i ho
      simp only [ho] at h2
      exact anyIn_of_any hd f _ _ _ h2
    · rename_i o ho
      simp only [ho] at h2
      split
      · rename_i hw
        simp only [hw, if_true] at h2
        rcases h2 with h2 | ⟨_, h2⟩
        · exact opIn_of_op (hd i o ho) (Oper.wp_mono (fun a w hk => anyIn_of_any hd f _ a w hk) h2)
        · exact (onlyN_out h2).elim
      · rename_i hw
        simp only [hw] at h2
        exact ⟨fun _ _ => trivial, anyIn_of_any hd f _ _ _ h2⟩
end
section
variable {P : Program} {ops : Array Oper} {Q : Exit → Act → World → Prop} {a : Act}
theorem wpIn_region_list_tail {l m id : Nat} {w : World} (n : Nat) (L : List Fact) (hdf : ops.toList.all noDefer = true) (hm : P.follows .mixedOrders = true) (hA : acycB ops = true) (hD : dstsB ops a.tmps.size = true)
    (hn : decide (n < ops.size) = true) (hs : Region.sinkB .any ops n = true) (hc : Region.chainB .any ops n = true) (hq : Region.seqB .any ops (ops.size - n) n (Array.replicate n true ++ Array.replicate (ops.size - n) false) = true)
    (hstep : RSteps (fun k o => ∀ b w', RAt ops (factsOf L) a w k b w' → (∀ t, t ∉ dstsOf (ops.toList.take n).toArray → b.tmps.getD t undef = a.tmps.getD t undef) → RGood P ops (factsOf L) (onlyN Q) k o b w') 0 (ops.toList.take n))
    (hend : ∀ b w', Ext w w' → b.defers = a.defers → b.tmps.size = a.tmps.size → (∀ t, t ∉ dstsOf (ops.toList.take n).toArray → b.tmps.getD t undef = a.tmps.getD t undef) →
      (∀ j o d, j < n → ops[j]? = some o → o.dst = some d → factsOf L j (b.tmps.getD d undef) w') → wpList P ops (onlyN Q) (ops.toList.drop n) b w') : (Code.region id ops true).wpIn (Fence.wide.inRound l) m P Q a w := by
  have hn' := of_decide_eq_true hn
  have hd : ∀ (i : Nat) (o : Oper), ops[i]? = some o → noDefer o = true := fun i o ho => List.all_eq_true.1 hdf o (List.mem_of_getElem? (by rw [Array.getElem?_toList]; exact ho))
  refine wpIn_region_any hm (anyIn_of_any hd _ _ _ _ ?_)
  have := wpAny_facts_tail (P := P) (Φ := factsOf L) (Q := onlyN Q) (W := w) hA hD hn' hs hc hq (fun i v w w' h hx => Fact.stays _ v w w' h hx) (fun i o hi ho b w' h hE => by
    have := RSteps.get 0 (ops.toList.take n) hstep i o (by rw [List.getElem?_take, if_pos hi]; simpa using ho) b w'
    rw [Nat.zero_add] at this
    exact this h hE) (fun b w' h1 h2 h3 _ h5 h6 => hend b w' h1 h2 h3 h6 h5) n (Array.replicate ops.size false) a { w with drawn := w.drawn + 1 } ⟨(Ext.refl w).drew, rfl, rfl, by simp, fun _ _ => rfl, fun j o d ho hl _ => ?_⟩ (fun _ _ => rfl)
    ⟨by simp, fun j oj _ hl => (by rw [getD_replicate_false] at hl; cases hl), fun t _ ht => getD_in (by simpa using ht) (getD_replicate_false _ _)⟩ (by
      rw [Array.toList_replicate, List.take_replicate, cntF_rep]; omega)
  · rwa [show n + (ops.size - n) = ops.size by omega] at this
  · rw [getD_replicate_false] at hl; cases hl
end
end Go.Proofs.YtiknkcadbaeknaaGreat
set_option linter.unusedVariables false
set_option linter.unusedSimpArgs false
namespace Go.Proofs.YtiknkcadbaeknaaGreat
open Go.RowKit
attribute [local go_sem] GW.cell GW.frozen In.eq_true In.le_true In.ne In.ne' In.ne_add In.ne_add' In.lt_add Upto.le_true Upto.le_add Upto.lt_add
def cmpI (a b : Int) : Int := if a < b then -1 else if b < a then 1 else 0
set_option maxHeartbeats 1000000 in
theorem isNaN_c (a : Int) (w : World) : Calls Tryz.prog 185 #[.int .i64 a] w fun e w' => e = .returned (.bool false) ∧ w = w' := by
  go_enter Tryz.func185, Tryz.ntmps185
  go_wp2_with fail
  go_returns
  exact ⟨by simp, rfl⟩
set_option maxHeartbeats 1000000 in
theorem jcompare_c (a b : Int) (w : World) : Calls Tryz.prog 127 #[.int .i64 a, .int .i64 b] w fun e w' => e = .returned (.int .i64 (cmpI a b)) ∧ w = w' := by
  have h1 := fun x w => isNaN_c x w
  unfold cmpI
  rcases Int.lt_trichotomy a b with h | h | h
  · rw [if_pos h]
    go_enter Tryz.func127, Tryz.ntmps127
    go_wp2_with (go_at_call 185; refine (h1 _ _).mono ?_; rintro ee w' ⟨rfl, rfl⟩)
    go_returns
    exact ⟨rfl, rfl⟩
  · subst h
    rw [if_neg (by omega), if_neg (by omega)]
    go_enter Tryz.func127, Tryz.ntmps127
    go_wp2_with (go_at_call 185; refine (h1 _ _).mono ?_; rintro ee w' ⟨rfl, rfl⟩)
    go_returns
    exact ⟨rfl, rfl⟩
  · rw [if_neg (by omega), if_pos h]
    have d : decide (a < b) = false := by rw [decide_eq_false_iff_not]; omega
    go_enter Tryz.func127, Tryz.ntmps127
    go_wp2_with (go_at_call 185; refine (h1 _ _).mono ?_; rintro ee w' ⟨rfl, rfl⟩)
    go_returns
    exact ⟨rfl, rfl⟩
set_option maxHeartbeats 1000000 in
theorem byTime_c (x y : Jp) (W : World) : Calls Tryz.prog 196 #[jm x, jm y] W fun e w' => e = .returned (.int .i64 (cmpI x.1 y.1)) ∧ ∃ q os', w' = Go.Sort.grow (W.drewN q) os' := by
  have hc := fun w => jcompare_c x.1 y.1 w
  generalize cmpI x.1 y.1 = r at *
  obtain ⟨xp, xn⟩ := x
  obtain ⟨yp, yn⟩ := y
  go_enter Tryz.func196, Tryz.ntmps196
  go_wp2_with (go_at_call 127; refine (hc _).mono ?_; rintro ee w' ⟨rfl, rfl⟩)
  go_returns
  exact ⟨rfl, 0, _, by rw [Go.Sort.alloc_eq_grow, Go.Sort.alloc_eq_grow, Go.Sort.grow_grow]; rfl⟩
def encJ (x : Jp) : List Value := [.int .i64 x.1, .int .i64 x.2]
theorem lt_cmp (x y : Jp) : Go.Proofs.ltOf (fun a b : Jp => cmpI a.1 b.1) x y = decide (x.1 < y.1) := by
  unfold Go.Proofs.ltOf cmpI
  by_cases h1 : x.1 < y.1
  · simp [h1]
  · by_cases h2 : y.1 < x.1 <;> simp [h1, h2]
theorem swo_time : Go.Sort.SWO (Go.Proofs.ltOf fun a b : Jp => cmpI a.1 b.1) where
  irrefl x := by rw [lt_cmp]; simp
  trans x y z h1 h2 := by rw [lt_cmp] at *; simp at *; omega
  ntrans x y z h1 h2 := by rw [lt_cmp] at *; simp at *; omega
theorem flat_ps (l : List Jp) : Go.Sort.flatK encJ 2 l.toArray = (ps l).toArray := by
  apply Array.ext
  · simp [ps_length]
  · intro t h1 h2
    have ht : t < l.length * 2 := by simpa using h1
    have hi : t / 2 < l.length := by omega
    obtain ⟨g0, g1⟩ := ps_get l (t / 2) l[t / 2] (List.getElem?_eq_getElem hi)
    have e := Go.Sort.get_flatK encJ 2 l.toArray t (by simpa using ht)
    rw [getElem!_pos _ t h1] at e
    have e2 : l.toArray[t / 2]! = l[t / 2] := by rw [getElem!_pos l.toArray (t / 2) (by simpa using hi)]; simp
    rw [e, e2]
    have h2' : t < (ps l).length := by rw [ps_length]; exact ht
    have e3 : (ps l).toArray[t] = (ps l)[t] := by simp
    rw [e3]
    rcases (by omega : t = t / 2 * 2 ∨ t = t / 2 * 2 + 1) with e | e
    · have : (ps l)[t]? = some (.int .i64 l[t / 2].1) := by rw [← g0]; exact congrArg _ e
      rw [List.getElem?_eq_getElem h2'] at this
      rw [Option.some.inj this, show t % 2 = 0 by omega]; rfl
    · have : (ps l)[t]? = some (.int .i64 l[t / 2].2) := by rw [← g1]; exact congrArg _ e
      rw [List.getElem?_eq_getElem h2'] at this
      rw [Option.some.inj this, show t % 2 = 1 by omega]; rfl
theorem take_put (cur : Array Value) (xs : List Value) (h : xs.length ≤ cur.size) : (Go.Sort.putCells id 0 xs.toArray cur).toList.take xs.length = xs := by
  apply List.ext_getElem?
  intro j
  by_cases hj : j < xs.length
  · rw [List.getElem?_take_of_lt hj, Array.getElem?_toList]
    simp [Go.Sort.putCells, hj, show j < cur.size by omega]
  · rw [List.getElem?_take_eq_none (by omega), List.getElem?_eq_none (by omega)]
theorem heap_put {w : World} {g n : Nat} {os : Array Obj} {cur : Array Value} {e : TypeId} {fr : Nat × Nat} (d : Array Value) (hb : w.heap[g]? = some (.cells cur e fr)) :
    (Go.Sort.grow (Go.Sort.putRow id (Go.Sort.ahead w n) g 0 d) os).heap[g]? = some (.cells (Go.Sort.putCells id 0 d cur) e fr) := by
  have hg : g < w.heap.size := (Array.getElem?_eq_some_iff.1 hb).1
  rw [Go.Sort.heap_grow_old _ _ (by simpa using hg)]
  simp [Go.Sort.putRow, Go.Sort.mapBlock, Go.Sort.ahead, Array.getElem?_modify, hb, Go.Sort.onCells]
theorem grownBy_put {w : World} {g n : Nat} {os : Array Obj} (d : Array Value) : w.grownBy (Go.Sort.grow (Go.Sort.putRow id (Go.Sort.ahead w n) g 0 d) os) (some g) := by
  refine ⟨rfl, rfl, rfl, by simp, fun k hk hne => ?_⟩
  rw [Go.Sort.heap_grow_old _ _ (by simpa using hk)]
  have : g ≠ k := fun e => hne (by rw [e])
  simp [Go.Sort.putRow, Go.Sort.mapBlock, Go.Sort.ahead, Array.getElem?_modify, this]
set_option maxHeartbeats 2000000 in
/-- Sorted by their times, in place. -/
theorem sort_c (W0 : World) (l : List Jp) (v : Value) (w : World) (h : OwnJ w W0.heap.size v l) (hX : Ext W0 w) (hn : l.length ≤ 8192) : Calls Tryz.prog 195 #[v, .func (.func 196) #[] #[]] w fun e w' =>
    e = .returned (.tuple #[]) ∧ ∃ s : List Jp, s.Perm l ∧ s.Pairwise (fun a b => a.1 ≤ b.1) ∧ OwnJ w' W0.heap.size v s ∧ Ext W0 w' := by
  rcases h.2 with ⟨rfl, h0⟩ | ⟨g, cap, cur, rfl, hb, hg, hnc, hcm, hcs, ht⟩
  · obtain rfl : l = [] := List.eq_nil_of_length_eq_zero (by simpa using h0)
    have hc := AnyF.slices_SortFunc_none Tryz.sortJ none 0 (.func (.func 196) #[] #[]) w
    refine hc.mono ?_
    rintro e w' ⟨rfl, rfl⟩
    exact ⟨rfl, [], List.Perm.refl _, List.Pairwise.nil, h, hX⟩
  · have eg : ∀ args w, (callFunc 196 args).run Tryz.prog w = .ok (.enter 196 args) w := enters_of Tryz.func196 (by kernel_rfl) rfl
    have hH : Go.Sort.HoldsK encJ 2 w g 0 l.toArray := by
      unfold Go.Sort.HoldsK
      rw [flat_ps]
      intro j hj
      have hj' : j < l.length * 2 := by rw [← ps_length]; simpa using hj
      have h1 := World.ownsRow.cellAt h j hj'
      have h2 := World.ownsRow.frozenAt h j
      rw [Nat.zero_add]
      refine ⟨?_, h2⟩
      rw [h1, getElem!_pos _ j hj]
      simp [List.getElem?_eq_getElem (show j < (ps l).length by rw [ps_length]; exact hj')]
    have hcon := AnyQ.slices_SortFunc Tryz.sortJ 2 Tryz.isAgg195 Tryz.sizeOf195 encJ (fun _ => rfl) (fun x v hv => by simp [encJ] at hv; rcases hv with rfl | rfl <;> rfl) (fun a b : Jp => cmpI a.1 b.1) swo_time 196 #[] g 0 cap l.toArray w eg (fun _ _ _ _ x y => byTime_c x y _) hH (lt_of_block hg) (by simp; omega)
    have hsz : l.toArray.size = l.length := by simp
    rw [hsz] at hcon
    refine hcon.mono ?_
    rintro e w' ⟨rfl, d', n, os, hp, hs, rfl⟩
    obtain ⟨p1, _, p3⟩ := hp
    have hd : d'.size = l.length := by rw [p1, hsz]
    have e1 : d'.extract 0 l.length = d' := by rw [← hd]; simp
    have e2 : l.toArray.extract 0 l.length = l.toArray := by rw [← hsz]; simp
    rw [e1, e2] at p3
    have hl : d'.toList.length = l.length := by rw [Array.length_toList]; exact hd
    have hflat : Go.Sort.flatK encJ 2 d' = (ps d'.toList).toArray := by have := flat_ps d'.toList; rwa [Array.toArray_toList] at this
    have hgr : w.grownBy (Go.Proofs.sortWorldK encJ 2 w g 0 n d' os) (some g) := by
      unfold Go.Proofs.sortWorldK Go.Sort.putRowK; exact grownBy_put _
    have hB : W0.heap.size ≤ g := hb
    refine ⟨rfl, d'.toList, by simpa using p3, ?_, ?_, ext_grown hX hgr (fun k hk => by cases hk; exact hB)⟩
    · rw [List.pairwise_iff_getElem]
      intro i j hi hj hij
      have := hs i j (Nat.zero_le _) hij (by rw [hl] at hj; exact hj)
      rw [lt_cmp, decide_eq_false_iff_not, getElem!_pos d' j (by simpa using hj), getElem!_pos d' i (by simpa using hi)] at this
      simp only [Array.getElem_toList]
      omega
    · refine ⟨by rw [ps_length], .inr ⟨g, cap, Go.Sort.putCells id 0 (ps d'.toList).toArray cur, by rw [hl], hb, ?_, by rw [hl]; exact hnc, hcm, by simp [Go.Sort.putCells, hcs], ?_⟩⟩
      · unfold Go.Proofs.sortWorldK Go.Sort.putRowK
        rw [hflat]
        exact heap_put _ hg
      · have := take_put cur (ps d'.toList) (by rw [ps_length, hl, hcs]; exact Nat.mul_le_mul_right _ hnc)
        rwa [ps_length] at this
end Go.Proofs.YtiknkcadbaeknaaGreat
set_option linter.unusedVariables false
set_option linter.unusedSimpArgs false
namespace Go.Proofs.YtiknkcadbaeknaaGreat
open Go.RowKit
attribute [local go_sem] GW.cell GW.frozen In.eq_true In.le_true In.ne In.ne' In.ne_add In.ne_add' In.lt_add Upto.le_true Upto.le_add Upto.lt_add
theorem ps_set (l : List Jp) (i : Nat) (x : Jp) (hi : i < l.length) : ps (l.set i x) = ((ps l).set (i * 2) (.int .i64 x.1)).set (i * 2 + 1) (.int .i64 x.2) := by
  induction l generalizing i with
  | nil => simp at hi
  | cons a r ih =>
    rcases i with _ | i
    · simp [ps]
    · have := ih i (by simpa using hi)
      rw [List.set_cons_succ, show ps (a :: r.set i x) = .int .i64 a.1 :: .int .i64 a.2 :: ps (r.set i x) from rfl, this, show ps (a :: r) = .int .i64 a.1 :: .int .i64 a.2 :: ps r from rfl, show (i + 1) * 2 = i * 2 + 1 + 1 by omega, show i * 2 + 1 + 1 + 1 = i * 2 + 1 + 1 + 1 from rfl]
      rfl
theorem ps_set_last (m : List Jp) (y : Jp) (z : Int) : (ps (m ++ [y])).set (m.length * 2 + 1) (.int .i64 z) = ps (m ++ [(y.1, z)]) := by
  induction m with
  | nil => simp [ps]
  | cons a r ih =>
    rw [List.cons_append, List.cons_append, show ps (a :: (r ++ [y])) = .int .i64 a.1 :: .int .i64 a.2 :: ps (r ++ [y]) from rfl, show ps (a :: (r ++ [(y.1, z)])) = .int .i64 a.1 :: .int .i64 a.2 :: ps (r ++ [(y.1, z)]) from rfl, ← ih, List.length_cons, show (r.length + 1) * 2 + 1 = r.length * 2 + 1 + 1 + 1 by omega]
    rfl
theorem ps_last (m : List Jp) (y : Jp) : (ps (m ++ [y]))[m.length * 2]? = some (.int .i64 y.1) ∧ (ps (m ++ [y]))[m.length * 2 + 1]? = some (.int .i64 y.2) := ps_get _ m.length y (by simp)
theorem own_block {w : World} {B : Nat} {v : Value} {l : List Jp} (h : OwnJ w B v l) (hne : l ≠ []) : ∃ g cap, v = .slice (some ⟨g, 0, none⟩) l.length cap ∧ B ≤ g ∧ g < w.heap.size := by
  have hpos := List.length_pos_iff.2 hne
  rcases h.2 with ⟨_, hz⟩ | ⟨g, cap, cur, rfl, hb, hg, hn, hc, hcs, ht⟩
  · omega
  · exact ⟨g, cap, rfl, hb, lt_of_block hg⟩
set_option maxHeartbeats 8000000 in
set_option maxRecDepth 100000 in
theorem addedUp_c (s : List Jp) (hs : s.Pairwise fun a b => a.1 ≤ b.1) (hb : ∀ j ∈ s, -1048576 ≤ j.2 ∧ j.2 ≤ 1048576) (hn : s.length ≤ 8192) (v : Value) (w : World) (h : Jw w [] v s) : Calls Tryz.prog 198 #[v] w fun e w' => ∃ v', e = .returned v' ∧ OwnJ w' w.heap.size v' (addup s) ∧ Ext w w' := by
  obtain ⟨A, cap, rfl, hl, hm, hat⟩ := jw_form h
  unfold maxLen at hm
  replace hat := hide hat
  have hnI : (s.length : Int) ≤ 8192 := by omega
  have hnd := hide hn
  have hbd := hide hb
  have hsd := hide hs
  clear h hb hs
  obtain ⟨R, hR⟩ : ∃ R, R = addup s := ⟨_, rfl⟩
  rw [← hR]
  replace hR := hide hR
  go_enter Tryz.func198, Tryz.ntmps198
  go_wp2_with fail
  go_loopg [3, 9] s.length (fun gh u i wr => ∃ (k : Nat) (acc : List Jp), i = .int .i64 k ∧ k + gh = s.length ∧ OwnJ wr w.heap.size u acc ∧ acc.length ≤ k ∧ Hid (acc = addup (s.take k)) ∧ Ext w wr)
  case atStart => exact ⟨0, [], rfl, by omega, World.ownsRow_nil _ _ _ _, Nat.le_refl _, rfl, Ext.refl w⟩
  case round =>
    obtain ⟨k, acc, rfl, hk, ho, hak, hacc, hX⟩ := hrel
    have hzX := hX.size
    by_cases hlt : k < s.length
    · obtain ⟨x, hx⟩ : ∃ x, s[k]? = some x := ⟨_, List.getElem?_eq_getElem hlt⟩
      obtain ⟨b, o, rfl, -, hbl, c0, c1⟩ := hat.out k x hx
      have k0 := jcell_later hX c0
      have k1 := jcell_later hX c1
      have hbr : b < wr.heap.size := block_lt_of_cell k0
      haveI : In b wr := ⟨hbr⟩
      obtain ⟨n1, n2⟩ := hbd.out x (List.mem_of_getElem? hx)
      have hnx : addup (s.take (k + 1)) = addS acc x := by rw [take_snoc hx, addup_snoc, hacc.out]
      have hinv := addup_inv 1048576 (by omega) (s.take k).length (s.take k) rfl (hsd.out.sublist (List.take_sublist _ _)) (fun j hj => hbd.out j (List.mem_of_mem_take hj))
      rw [← hacc.out] at hinv
      have hbacc : ∀ j ∈ acc, -8589934592 ≤ j.2 ∧ j.2 ≤ 8589934592 := fun j hj => by
        have h1 := hinv.2.2.2 j hj
        have h2 : (s.take k).length ≤ 8192 := by rw [List.length_take]; have := hnd.out; omega
        omega
      clear hinv c0 c1 hx hacc
      obtain ⟨xp, xn⟩ := x
      simp only at n1 n2 k0 k1
      rcases snoc_cases acc with rfl | ⟨m, y, rfl⟩
      · rw [addS_nil] at hnx
        replace hnx := hide hnx
        obtain ⟨C, ccap, rfl⟩ := own_form ho
        replace ho := hide ho
        clear hbacc
        go_wp2_with fail
        go_quiet (fail)
        go_wp2_with (at_builtin; (refine wpl_app tJmp rfl (.tmp 38) (.tmp 40) rfl rfl (own_ext ho.out ((((Ext.refl wr).alloc _).drewN _).alloc _)) rfl (src_jmpAt Tryz.underlying138 _ _ (by simp) (xp, xn) _) (by unfold maxLen; simp only [List.length_nil]; omega) (by simp only [List.length_nil]; omega) (by simp; omega) ?_; intro v7 w7 ho7 hg7 _))
        go_roundg (s.length - (k + 1))
        case measure => omega
        case rel => exact ⟨k + 1, [(xp, xn)], by go_num, by omega, (by have := own_appJ (l := []) ho7; simpa using this), by simp, hnx.out.symm, ext_grown (((hX.alloc _).drewN _).alloc _) hg7 (fun k hk => (ho.out.lt k hk).1)⟩
      · obtain ⟨g, ccap, rfl, hgB, hgl⟩ := own_block ho (by simp)
        unfold OwnJ at ho
        rw [show (m ++ [y]).length = m.length + 1 by simp] at ho ⊢
        haveI : In g wr := ⟨hgl⟩
        obtain ⟨q0, q1⟩ := ps_last m y
        have y0 := (World.ownsRow.cellAt ho (m.length * 2) (show m.length * 2 < (m.length + 1) * 2 by omega)).trans q0
        have y1 := (World.ownsRow.cellAt ho (m.length * 2 + 1) (show m.length * 2 + 1 < (m.length + 1) * 2 by omega)).trans q1
        have yf := World.ownsRow.frozenAt ho (m.length * 2 + 1)
        obtain ⟨z1, z2⟩ := hbacc y (by simp)
        obtain ⟨q, hq⟩ : ∃ q, q = m.length := ⟨_, rfl⟩
        have hak' : q + 1 ≤ k := by rw [List.length_append, List.length_singleton] at hak; omega
        rw [← hq] at y0 y1 yf ⊢
        have hqI : (q : Int) < (q : Int) + 1 := by omega
        have hq64 : q < 9223372036854775808 := by omega
        have hqh := hide hq
        replace ho := hide ho
        clear hq hak q0 q1 hbacc
        obtain ⟨yp, yn⟩ := y
        simp only at z1 z2 y0 y1
        by_cases hyx : yp = xp
        · subst hyx
          rw [addS_same m (yp, yn) (yp, xn) rfl] at hnx
          simp only at hnx
          replace hnx := hide hnx
          have hwq : IntKind.i64.wrap (yn + xn) = yn + xn := by simp [IntKind.wrap, IntKind.bits, IntKind.signed]; omega
          go_wp2_with fail
          go_quiet (fail)
          go_wp2_with fail
          refine wp_region_gw_tail 10 (by kernel_rfl) (by kernel_rfl) ?_
          simp only [List.take_succ_cons, List.take_zero, List.drop_succ_cons, List.drop_zero]
          repeat (go_big_quiet_step (fail))
          refine wpQuiet_nil ?_
          intro g7
          clear hwq
          go_wp2_with fail
          go_roundg (s.length - (k + 1))
          case measure => omega
          case rel =>
            have hX7 := (((Ext.refl wr).alloc (.cells #[.int .i64 yp, .int .i64 xn] 195)).drewN nq).trans g7.grown
            have ho7 := (World.ownsRow.stored (own_ext ho.out hX7) (m.length * 2 + 1) (.int .i64 (yn + xn))).1
            rw [ps_set_last] at ho7
            refine ⟨k + 1, m ++ [(yp, yn + xn)], by go_num, by omega, ?_, by rw [List.length_append, List.length_singleton, ← hqh.out]; omega, hnx.out.symm, (hX.trans hX7).setCell hgB _⟩
            unfold OwnJ
            rw [List.length_append, List.length_singleton, ← hqh.out]
            rw [← hqh.out] at ho7
            exact ho7
        · have hyb : (yp == xp) = false := by simp [hyx]
          rw [addS_other m (yp, yn) (xp, xn) hyx] at hnx
          replace hnx := hide hnx
          replace hyx := hide hyx
          go_wp2_with fail
          go_quiet (fail)
          go_wp2_with (at_builtin; (refine wpl_app tJmp rfl (.tmp 38) (.tmp 40) rfl rfl (own_ext (show OwnJ wr w.heap.size (.slice (some ⟨g, 0, none⟩) (q + 1) ccap) (m ++ [(yp, yn)]) by unfold OwnJ; rw [List.length_append, List.length_singleton]; rw [hqh.out]; exact ho.out) ((((Ext.refl wr).alloc _).drewN _).alloc _)) rfl (src_jmpAt Tryz.underlying138 _ _ (by simp) (xp, xn) _) (by unfold maxLen; rw [List.length_append, List.length_singleton, ← hqh.out]; omega) (by rw [List.length_append, List.length_singleton, ← hqh.out]; omega) (by simp; omega) ?_; intro v7 w7 ho7 hg7 _))
          go_roundg (s.length - (k + 1))
          case measure => omega
          case rel => exact ⟨k + 1, m ++ [(yp, yn)] ++ [(xp, xn)], by go_num, by omega, own_appJ ho7, by rw [List.length_append, List.length_append, List.length_singleton, List.length_singleton, ← hqh.out]; omega, hnx.out.symm, ext_grown (((hX.alloc _).drewN _).alloc _) hg7 (fun k hk => by cases hk; exact hgB)⟩
    · have hk' : k = s.length := by omega
      have hge : (s.length : Int) ≤ k := by omega
      have hR2 : Hid (R = acc) := by show _ = _; have := hacc.out; rw [hk', List.take_length] at this; rw [hR.out]; exact this.symm
      replace hk' := hide hk'
      clear hacc hR
      obtain ⟨C, ccap, rfl⟩ := own_form ho
      replace ho := hide ho
      go_wp2_with fail
      go_returns
      rw [hR2.out]
      exact ⟨_, rfl, ho.out, hX⟩
end Go.Proofs.YtiknkcadbaeknaaGreat
