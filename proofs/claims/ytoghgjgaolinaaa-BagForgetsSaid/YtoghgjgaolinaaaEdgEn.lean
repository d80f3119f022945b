/-
  A helper of ours: no claim of its own. Layer 10 (edge): what is made of each row's jumps (edge.each).
-/
import Derived.Test.YtoghgjgaolinaaaStepR
import Derived.Test.YtoghgjgaolinaaaStepE
import Derived.Test.YtoghgjgaolinaaaSort
import Derived.StillTail
import Derived.Lib.SliceRun
import Derived.Test.YtoghgjgaolinaaaEdgO
set_option linter.unusedVariables false
set_option linter.unusedSimpArgs false
namespace Go.Proofs.Ytoghgjgaolinaaa
open Go.RowKit
/-- What is asked of an end that is no leave. -/
def onlyN (Q : Exit → Act → World → Prop) : Exit → Act → World → Prop
  | .normal, a, w => Q .normal a w
  | _, _, _ => False
theorem onlyN_out {Q : Exit → Act → World → Prop} (h : LetsOut (onlyN Q)) : False := by obtain ⟨a, w, h⟩ := h; exact h
def noDefer (o : Oper) : Bool := match o.op with | .defer _ => false | _ => true
theorem noDefer_spec {o : Oper} (h : noDefer o = true) : ∀ c, o.op ≠ .defer c := fun c e => by unfold noDefer at h; rw [e] at h; cases h
section
variable {P : Program} {l n : Nat} {ops : Array Oper} {Q : Exit → Act → World → Prop}
theorem opIn_of_op {o : Oper} {a : Act} {w : World} {K : Act → World → Prop} (hd : noDefer o = true) (h : o.wp P a w K (onlyN Q)) : o.wpIn (Fence.wide.inRound l) n P a w K Q := by
  unfold Oper.wpIn
  refine ⟨fun _ _ => trivial, ?_⟩
  rw [show (Fence.wide.inRound l).round = some l from rfl, Oper.semAt_some l _ _ (noDefer_spec hd)]
  unfold Oper.wp at h
  generalize (execOp a.eval o).run P w = r at *
  cases r with
  | ok x w' =>
    cases x <;> simp only [Oper.upon, Oper.uponIn] at h ⊢
    all_goals first
      | exact h
      | exact ⟨fun h => by simp [Fence.wide] at h, in_round (h.mono fun e w'' he => by
          cases e with
          | returned v => exact he
          | panicked ch => exact he.elim
          | outgrown => exact (onlyN_out he).elim)⟩
      | exact ⟨fun h => by simp [Fence.wide] at h, fun c cs _ => let ⟨v, w', r, s⟩ := h c cs; ⟨v, w', r, stepsIn_wide.2 s⟩⟩
  | halt x w' =>
    cases x <;> simp only [Oper.upon, Oper.uponIn] at h ⊢
    all_goals first
      | exact h.elim
      | exact h
theorem anyIn_of_any (hd : ∀ (i : Nat) (o : Oper), ops[i]? = some o → noDefer o = true) : ∀ (f : Nat) (listed : Array Bool) (a : Act) (w : World), wpAny P .any ops (onlyN Q) f listed a w → wpAnyIn (Fence.wide.inRound l) n P .any ops Q f listed a w
  | 0, listed, a, w, h => h
  | f + 1, listed, a, w, h => by
    refine ⟨fun hr => h.1 hr, fun i hi => ?_⟩
    have h2 := h.2 i hi
    unfold wpOp at h2
    unfold wpOpIn
    split
    · rename_i ho
      simp only [ho] at h2
      exact anyIn_of_any hd f _ _ _ h2
    · rename_i o ho
      simp only [ho] at h2
      split
      · rename_i hw
        simp only [hw, if_true] at h2
        rcases h2 with h2 | ⟨_, h2⟩
        · exact opIn_of_op (hd i o ho) (Oper.wp_mono (fun a w hk => anyIn_of_any hd f _ a w hk) h2)
        · exact (onlyN_out h2).elim
      · rename_i hw
        simp only [hw] at h2
        exact ⟨fun _ _ => trivial, anyIn_of_any hd f _ _ _ h2⟩
end
section
variable {P : Program} {ops : Array Oper} {Q : Exit → Act → World → Prop} {a : Act}
theorem wpIn_region_list_tail {l m id : Nat} {w : World} (n : Nat) (L : List Fact) (hdf : ops.toList.all noDefer = true) (hm : P.follows .mixedOrders = true) (hA : acycB ops = true) (hD : dstsB ops a.tmps.size = true)
    (hn : decide (n < ops.size) = true) (hs : Region.sinkB .any ops n = true) (hc : Region.chainB .any ops n = true) (hq : Region.seqB .any ops (ops.size - n) n (Array.replicate n true ++ Array.replicate (ops.size - n) false) = true)
    (hstep : RSteps (fun k o => ∀ b w', RAt ops (factsOf L) a w k b w' → (∀ t, t ∉ dstsOf (ops.toList.take n).toArray → b.tmps.getD t undef = a.tmps.getD t undef) → RGood P ops (factsOf L) (onlyN Q) k o b w') 0 (ops.toList.take n))
    (hend : ∀ b w', Ext w w' → b.defers = a.defers → b.tmps.size = a.tmps.size → (∀ t, t ∉ dstsOf (ops.toList.take n).toArray → b.tmps.getD t undef = a.tmps.getD t undef) →
      (∀ j o d, j < n → ops[j]? = some o → o.dst = some d → factsOf L j (b.tmps.getD d undef) w') → wpList P ops (onlyN Q) (ops.toList.drop n) b w') : (Code.region id ops true).wpIn (Fence.wide.inRound l) m P Q a w := by
  have hn' := of_decide_eq_true hn
  have hd : ∀ (i : Nat) (o : Oper), ops[i]? = some o → noDefer o = true := fun i o ho => List.all_eq_true.1 hdf o (List.mem_of_getElem? (by rw [Array.getElem?_toList]; exact ho))
  refine wpIn_region_any hm (anyIn_of_any hd _ _ _ _ ?_)
  have := wpAny_facts_tail (P := P) (Φ := factsOf L) (Q := onlyN Q) (W := w) hA hD hn' hs hc hq (fun i v w w' h hx => Fact.stays _ v w w' h hx) (fun i o hi ho b w' h hE => by
    have := RSteps.get 0 (ops.toList.take n) hstep i o (by rw [List.getElem?_take, if_pos hi]; simpa using ho) b w'
    rw [Nat.zero_add] at this
    exact this h hE) (fun b w' h1 h2 h3 _ h5 h6 => hend b w' h1 h2 h3 h6 h5) n (Array.replicate ops.size false) a { w with drawn := w.drawn + 1 } ⟨(Ext.refl w).drew, rfl, rfl, by simp, fun _ _ => rfl, fun j o d ho hl _ => ?_⟩ (fun _ _ => rfl)
    ⟨by simp, fun j oj _ hl => (by rw [getD_replicate_false] at hl; cases hl), fun t _ ht => getD_in (by simpa using ht) (getD_replicate_false _ _)⟩ (by
      rw [Array.toList_replicate, List.take_replicate, cntF_rep]; omega)
  · rwa [show n + (ops.size - n) = ops.size by omega] at this
  · rw [getD_replicate_false] at hl; cases hl
end
end Go.Proofs.Ytoghgjgaolinaaa
set_option linter.unusedVariables false
set_option linter.unusedSimpArgs false
namespace Go.Proofs.Ytoghgjgaolinaaa
open Go.RowKit
attribute [local go_sem] GW.cell GW.frozen In.eq_true In.le_true In.ne In.ne' In.ne_add In.ne_add' In.lt_add Upto.le_true Upto.le_add Upto.lt_add
def cmpI (a b : Int) : Int := if a < b then -1 else if b < a then 1 else 0
set_option maxHeartbeats 1000000 in
theorem isNaN_c (a : Int) (w : World) : Calls Try.prog 144 #[.int .i64 a] w fun e w' => e = .returned (.bool false) ∧ w = w' := by
  go_enter Try.func144, Try.ntmps144
  go_wp2_with fail
  go_returns
  exact ⟨by simp, rfl⟩
set_option maxHeartbeats 1000000 in
theorem jcompare_c (a b : Int) (w : World) : Calls Try.prog 110 #[.int .i64 a, .int .i64 b] w fun e w' => e = .returned (.int .i64 (cmpI a b)) ∧ w = w' := by
  have h1 := fun x w => isNaN_c x w
  unfold cmpI
  rcases Int.lt_trichotomy a b with h | h | h
  · rw [if_pos h]
    go_enter Try.func110, Try.ntmps110
    go_wp2_with (go_at_call 144; refine (h1 _ _).mono ?_; rintro ee w' ⟨rfl, rfl⟩)
    go_returns
    exact ⟨rfl, rfl⟩
  · subst h
    rw [if_neg (by omega), if_neg (by omega)]
    go_enter Try.func110, Try.ntmps110
    go_wp2_with (go_at_call 144; refine (h1 _ _).mono ?_; rintro ee w' ⟨rfl, rfl⟩)
    go_returns
    exact ⟨rfl, rfl⟩
  · rw [if_neg (by omega), if_pos h]
    have d : decide (a < b) = false := by rw [decide_eq_false_iff_not]; omega
    go_enter Try.func110, Try.ntmps110
    go_wp2_with (go_at_call 144; refine (h1 _ _).mono ?_; rintro ee w' ⟨rfl, rfl⟩)
    go_returns
    exact ⟨rfl, rfl⟩
def encJ (x : Jp) : List Value := [.int .i64 x.1, .int .i64 x.2]
theorem lt_cmp (x y : Jp) : Go.Proofs.ltOf (fun a b : Jp => cmpI a.1 b.1) x y = decide (x.1 < y.1) := by
  unfold Go.Proofs.ltOf cmpI
  by_cases h1 : x.1 < y.1
  · simp [h1]
  · by_cases h2 : y.1 < x.1 <;> simp [h1, h2]
theorem swo_time : Go.Sort.SWO (Go.Proofs.ltOf fun a b : Jp => cmpI a.1 b.1) where
  irrefl x := by rw [lt_cmp]; simp
  trans x y z h1 h2 := by rw [lt_cmp] at *; simp at *; omega
  ntrans x y z h1 h2 := by rw [lt_cmp] at *; simp at *; omega
theorem flat_ps (l : List Jp) : Go.Sort.flatK encJ 2 l.toArray = (ps l).toArray := by
  apply Array.ext
  · simp [ps_length]
  · intro t h1 h2
    have ht : t < l.length * 2 := by simpa using h1
    have hi : t / 2 < l.length := by omega
    obtain ⟨g0, g1⟩ := ps_get l (t / 2) l[t / 2] (List.getElem?_eq_getElem hi)
    have e := Go.Sort.get_flatK encJ 2 l.toArray t (by simpa using ht)
    rw [getElem!_pos _ t h1] at e
    have e2 : l.toArray[t / 2]! = l[t / 2] := by rw [getElem!_pos l.toArray (t / 2) (by simpa using hi)]; simp
    rw [e, e2]
    have h2' : t < (ps l).length := by rw [ps_length]; exact ht
    have e3 : (ps l).toArray[t] = (ps l)[t] := by simp
    rw [e3]
    rcases (by omega : t = t / 2 * 2 ∨ t = t / 2 * 2 + 1) with e | e
    · have : (ps l)[t]? = some (.int .i64 l[t / 2].1) := by rw [← g0]; exact congrArg _ e
      rw [List.getElem?_eq_getElem h2'] at this
      rw [Option.some.inj this, show t % 2 = 0 by omega]; rfl
    · have : (ps l)[t]? = some (.int .i64 l[t / 2].2) := by rw [← g1]; exact congrArg _ e
      rw [List.getElem?_eq_getElem h2'] at this
      rw [Option.some.inj this, show t % 2 = 1 by omega]; rfl
theorem take_put (cur : Array Value) (xs : List Value) (h : xs.length ≤ cur.size) : (Go.Sort.putCells id 0 xs.toArray cur).toList.take xs.length = xs := by
  apply List.ext_getElem?
  intro j
  by_cases hj : j < xs.length
  · rw [List.getElem?_take_of_lt hj, Array.getElem?_toList]
    simp [Go.Sort.putCells, hj, show j < cur.size by omega]
  · rw [List.getElem?_take_eq_none (by omega), List.getElem?_eq_none (by omega)]
theorem heap_put {w : World} {g n : Nat} {os : Array Obj} {cur : Array Value} {e : TypeId} {fr : Nat × Nat} (d : Array Value) (hb : w.heap[g]? = some (.cells cur e fr)) :
    (Go.Sort.grow (Go.Sort.putRow id (Go.Sort.ahead w n) g 0 d) os).heap[g]? = some (.cells (Go.Sort.putCells id 0 d cur) e fr) := by
  have hg : g < w.heap.size := (Array.getElem?_eq_some_iff.1 hb).1
  rw [Go.Sort.heap_grow_old _ _ (by simpa using hg)]
  simp [Go.Sort.putRow, Go.Sort.mapBlock, Go.Sort.ahead, Array.getElem?_modify, hb, Go.Sort.onCells]
theorem grownBy_put {w : World} {g n : Nat} {os : Array Obj} (d : Array Value) : w.grownBy (Go.Sort.grow (Go.Sort.putRow id (Go.Sort.ahead w n) g 0 d) os) (some g) := by
  refine ⟨rfl, rfl, rfl, by simp, fun k hk hne => ?_⟩
  rw [Go.Sort.heap_grow_old _ _ (by simpa using hk)]
  have : g ≠ k := fun e => hne (by rw [e])
  simp [Go.Sort.putRow, Go.Sort.mapBlock, Go.Sort.ahead, Array.getElem?_modify, this]
end Go.Proofs.Ytoghgjgaolinaaa
set_option linter.unusedVariables false
set_option linter.unusedSimpArgs false
namespace Go.Proofs.Ytoghgjgaolinaaa
open Go.RowKit
attribute [local go_sem] GW.cell GW.frozen In.eq_true In.le_true In.ne In.ne' In.ne_add In.ne_add' In.lt_add Upto.le_true Upto.le_add Upto.lt_add
theorem ps_set (l : List Jp) (i : Nat) (x : Jp) (hi : i < l.length) : ps (l.set i x) = ((ps l).set (i * 2) (.int .i64 x.1)).set (i * 2 + 1) (.int .i64 x.2) := by
  induction l generalizing i with
  | nil => simp at hi
  | cons a r ih =>
    rcases i with _ | i
    · simp [ps]
    · have := ih i (by simpa using hi)
      rw [List.set_cons_succ, show ps (a :: r.set i x) = .int .i64 a.1 :: .int .i64 a.2 :: ps (r.set i x) from rfl, this, show ps (a :: r) = .int .i64 a.1 :: .int .i64 a.2 :: ps r from rfl, show (i + 1) * 2 = i * 2 + 1 + 1 by omega, show i * 2 + 1 + 1 + 1 = i * 2 + 1 + 1 + 1 from rfl]
      rfl
theorem ps_set_last (m : List Jp) (y : Jp) (z : Int) : (ps (m ++ [y])).set (m.length * 2 + 1) (.int .i64 z) = ps (m ++ [(y.1, z)]) := by
  induction m with
  | nil => simp [ps]
  | cons a r ih =>
    rw [List.cons_append, List.cons_append, show ps (a :: (r ++ [y])) = .int .i64 a.1 :: .int .i64 a.2 :: ps (r ++ [y]) from rfl, show ps (a :: (r ++ [(y.1, z)])) = .int .i64 a.1 :: .int .i64 a.2 :: ps (r ++ [(y.1, z)]) from rfl, ← ih, List.length_cons, show (r.length + 1) * 2 + 1 = r.length * 2 + 1 + 1 + 1 by omega]
    rfl
theorem ps_last (m : List Jp) (y : Jp) : (ps (m ++ [y]))[m.length * 2]? = some (.int .i64 y.1) ∧ (ps (m ++ [y]))[m.length * 2 + 1]? = some (.int .i64 y.2) := ps_get _ m.length y (by simp)
theorem own_block {w : World} {B : Nat} {v : Value} {l : List Jp} (h : OwnJ w B v l) (hne : l ≠ []) : ∃ g cap, v = .slice (some ⟨g, 0, none⟩) l.length cap ∧ B ≤ g ∧ g < w.heap.size := by
  have hpos := List.length_pos_iff.2 hne
  rcases h.2 with ⟨_, hz⟩ | ⟨g, cap, cur, rfl, hb, hg, hn, hc, hcs, ht⟩
  · omega
  · exact ⟨g, cap, rfl, hb, lt_of_block hg⟩
end Go.Proofs.Ytoghgjgaolinaaa
set_option linter.unusedVariables false
set_option linter.unusedSimpArgs false
namespace Go.Proofs.Ytoghgjgaolinaaa
open Go.RowKit
attribute [local go_sem] GW.cell GW.frozen In.eq_true In.le_true In.ne In.ne' In.ne_add In.ne_add' In.lt_add Upto.le_true Upto.le_add Upto.lt_add
theorem run_clear_cells {P : Program} (w : World) (t e ty : TypeId) (z : Value) (zs : List Value) (ht : P.underlying t = some (.slice e)) (hv : ∀ w, (zeroValue e).run P w = .ok z w) (b o n c : Nat) (hn : 0 < n) (hz : (Builtin.zeroCells z.cells n).toList = zs) (h1 : ∀ v ∈ zs, v.oneCell' = true)
    (hc : ∀ j, j < zs.length → (w.cell? ⟨b, o + j, none⟩).isSome = true) (hf : ∀ j, j < zs.length → w.frozen? ⟨b, o + j, none⟩ = false) :
    (Builtin.clear_ #[t] ty #[.slice (some ⟨b, o, none⟩) n c]).run P w = .ok (.tuple #[]) (w.setCells b o zs) := by
  have hst := run_storeCells_cells (P := P) b o zs 0 w (by simpa using hc) (by simpa using hf) h1
  simp only [Nat.add_zero] at hst
  obtain ⟨m, rfl⟩ : ∃ m, n = m + 1 := ⟨n - 1, by omega⟩
  simp [Builtin.clear_, run_underlying ht, hv, hz, hst]
theorem own_take {w : World} {B e : Nat} {g n i cap size : Nat} {xs : List Value} (h : w.ownsRow B e size (.slice (some ⟨g, 0, none⟩) n cap) n xs) (hi : i ≤ n) : w.ownsRow B e size (.slice (some ⟨g, 0, none⟩) i cap) i (xs.take (i * size)) := by
  rcases h.2 with ⟨h', _⟩ | ⟨g', cap', cur, h', hb, hg, hnc, hcm, hcs, htake⟩
  · simp at h'
  · simp only [Value.slice.injEq, Option.some.injEq, Addr.mk.injEq, and_true, true_and] at h'
    obtain ⟨rfl, rfl⟩ := h'
    have hm : i * size ≤ n * size := Nat.mul_le_mul_right _ hi
    refine ⟨by rw [List.length_take, h.1, Nat.min_eq_left hm], .inr ⟨g, cap, cur, rfl, hb, hg, by omega, hcm, hcs, ?_⟩⟩
    rw [← htake, List.take_take, Nat.min_eq_left hm]
theorem own_setCells {w0 : World} {B e : Nat} {g i cap size : Nat} {xs : List Value} : ∀ (vs : List Value) (o : Nat) (w : World), w.ownsRow B e size (.slice (some ⟨g, 0, none⟩) i cap) i xs → i * size ≤ o → (w.setCells g o vs).ownsRow B e size (.slice (some ⟨g, 0, none⟩) i cap) i xs
  | [], _, _, h, _ => h
  | v :: r, o, w, h, ho => by
    have h1 := (World.ownsRow.stored h o v).1
    rw [List.set_eq_of_length_le (by rw [h.1]; exact ho)] at h1
    exact own_setCells (w0 := w0) r (o + 1) _ h1 (by omega)
theorem ext_setCells {W : World} {g : Nat} (hg : W.heap.size ≤ g) : ∀ (vs : List Value) (o : Nat) (w : World), Ext W w → Ext W (w.setCells g o vs)
  | [], _, _, h => h
  | v :: r, o, w, h => ext_setCells hg r (o + 1) _ (h.setCell hg v)
def filt (l : List Jp) : List Jp := l.filter fun j => !dropJ j
theorem filt_next {l : List Jp} {k : Nat} {x : Jp} (hx : l[k]? = some x) : filt (l.take (k + 1)) = if dropJ x = true then filt (l.take k) else filt (l.take k) ++ [x] := by
  unfold filt
  rw [take_snoc hx, List.filter_append]
  cases h : dropJ x <;> simp [h]
theorem idx_none : ∀ (l : List Jp) (k : Nat), jidxP dropJ k l = -1 → filt l = l
  | [], _, _ => rfl
  | x :: r, k, h => by
    unfold jidxP at h
    cases hx : dropJ x
    · rw [hx] at h
      have := idx_none r (k + 1) (by simpa using h)
      unfold filt at this ⊢
      rw [List.filter_cons, hx]
      simp only [Bool.not_false, if_true]
      rw [this]
    · rw [hx, if_pos rfl] at h; omega
theorem idx_some : ∀ (l : List Jp) (k : Nat), jidxP dropJ k l ≠ -1 → ∃ i, jidxP dropJ k l = ((k + i : Nat) : Int) ∧ i < l.length ∧ filt (l.take i) = l.take i ∧ ∃ x, l[i]? = some x ∧ dropJ x = true
  | [], _, h => absurd rfl h
  | x :: r, k, h => by
    unfold jidxP at h ⊢
    cases hx : dropJ x
    · rw [hx] at h
      simp only [Bool.false_eq_true, if_false] at h ⊢
      obtain ⟨i, h1, h2, h3, h4⟩ := idx_some r (k + 1) h
      refine ⟨i + 1, by rw [h1]; congr 1; omega, by simp; omega, ?_, by simpa using h4⟩
      rw [List.take_succ_cons]
      unfold filt at h3 ⊢
      rw [List.filter_cons, hx]
      simp only [Bool.not_false, if_true]
      rw [h3]
    · exact ⟨0, by simp, by simp, rfl, x, rfl, hx⟩
end Go.Proofs.Ytoghgjgaolinaaa
set_option linter.unusedVariables false
set_option linter.unusedSimpArgs false
namespace Go.Proofs.Ytoghgjgaolinaaa
open Go.RowKit
attribute [local go_sem] GW.cell GW.frozen In.eq_true In.le_true In.ne In.ne' In.ne_add In.ne_add' In.lt_add Upto.le_true Upto.le_add Upto.lt_add
theorem any_no {l : List Jp} {p : Jp → Bool} (h : l.any p = false) : ∀ j ∈ l, p j = false := by
  intro j hj
  have := List.any_eq_false.1 h j hj
  simpa using this
theorem net_ok {l : List Jp} (h : l.any tooJ = false) : ∀ j ∈ l, -1048576 ≤ j.2 ∧ j.2 ≤ 1048576 := fun j hj => by
  have := any_no h j hj; unfold tooJ at this; rw [decide_eq_false_iff_not] at this; omega
end Go.Proofs.Ytoghgjgaolinaaa
set_option linter.unusedVariables false
set_option linter.unusedSimpArgs false
namespace Go.Proofs.Ytoghgjgaolinaaa
open Go.RowKit
attribute [local go_sem] GW.cell GW.frozen In.eq_true In.le_true In.ne In.ne' In.ne_add In.ne_add' In.lt_add Upto.le_true Upto.le_add Upto.lt_add Oper.semAt_some wide_depth wide_fn
theorem nmOp_len (f : List Jp) : (nmOp f).2.length ≤ 1024 := by
  unfold nmOp nmR
  simp only
  split
  · rename_i h
    unfold nmE at h
    split at h
    · cases h
    · split at h
      · cases h
      · unfold full at h
        split at h
        · rename_i h2; exact mayJ_len h2
        · cases h
  · simp
theorem evE_ok {op : List Jp → Int × List Jp} : ∀ {G : List Gp}, (∀ g ∈ G, (op g.2).1 = 0) → evE op G = 0
  | [], _ => rfl
  | g :: t, h => by rw [evE, if_pos (h g (by simp)), evE_ok fun x hx => h x (by simp [hx])]
theorem evE_bad {op : List Jp → Int × List Jp} : ∀ {G : List Gp} {k : Nat} {x : Gp}, (∀ g ∈ G.take k, (op g.2).1 = 0) → G[k]? = some x → (op x.2).1 ≠ 0 → evE op G = (op x.2).1
  | g :: t, 0, x, _, hx, h => by
    obtain rfl : g = x := by simpa using hx
    rw [evE, if_neg h]
  | g :: t, k + 1, x, hp, hx, h => by
    rw [evE, if_pos (hp g (by simp)), evE_bad (k := k) (fun y hy => hp y (by simp [hy])) (by simpa using hx) h]
theorem each_bad {op : List Jp → Int × List Jp} {G : List Gp} {k : Nat} {x : Gp} (hp : ∀ g ∈ G.take k, (op g.2).1 = 0) (hx : G[k]? = some x) (h : (op x.2).1 ≠ 0) : eachE op G = (op x.2).1 := by
  unfold eachE
  rw [evE_bad hp hx h, if_neg h]
theorem ob_obj {w : World} {base e size n : Nat} {v : Value} {xs : List Value} (h : w.ownsRow base e size v n xs) : ∀ y ∈ ob v, ∃ T vs, Ob w y T vs := by
  intro y hy
  have hy' : v.ownBlock = some y := by simpa [ob] using hy
  rcases h.2 with ⟨rfl, _⟩ | ⟨g, cap, cur, rfl, hb, hg, _⟩
  · cases hy'
  · have : y = g := by simpa [Value.ownBlock] using hy'.symm
    subst this
    exact ⟨e, cur.toList, by unfold Ob; simpa using hg⟩
def ownF (B : Nat) (q : List Vl) (R : List Jp) : Fact := .st (fun u w => ∃ M2, eds M2 = R.map (fun j => (q, j)) ∧ OwnEr w B u M2) (fun _ _ _ h k => by obtain ⟨M2, h1, h2⟩ := h; exact ⟨M2, h1, h2.ext k⟩)
theorem grp_len : ∀ l : List Ed, (grp l).length ≤ l.length
  | [] => Nat.le_refl _
  | e :: r => by
    have ih := grp_len r
    unfold grp
    split
    · simp
    · rename_i q f t h
      rw [h] at ih
      split <;> simp only [List.length_cons] at ih ⊢ <;> omega

end Go.Proofs.Ytoghgjgaolinaaa
