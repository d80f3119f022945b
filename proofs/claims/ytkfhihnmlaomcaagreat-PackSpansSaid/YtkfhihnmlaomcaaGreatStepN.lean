/-
  A helper of ours: no claim of its own. Layer 9 (step): jumps sorted (the library's sort, laid by the guide's shelf), and what a row of one's own is behind stores.
-/
import Derived.Test.YtkfhihnmlaomcaaGreatStepE
import Derived.Test.YtkfhihnmlaomcaaGreatSort
import Derived.StillTail
set_option linter.unusedVariables false
set_option linter.unusedSimpArgs false
namespace Go.Proofs.YtkfhihnmlaomcaaGreat
open Go.RowKit
attribute [local go_sem] GW.cell GW.frozen In.eq_true In.le_true In.ne In.ne' In.ne_add In.ne_add' In.lt_add Upto.le_true Upto.le_add Upto.lt_add
def cmpI (a b : Int) : Int := if a < b then -1 else if b < a then 1 else 0
set_option maxHeartbeats 1000000 in
theorem isNaN_c (a : Int) (w : World) : Calls Tryz.prog 132 #[.int .i64 a] w fun e w' => e = .returned (.bool false) ∧ w = w' := by
  go_enter Tryz.func132, Tryz.ntmps132
  go_wp2_with fail
  go_returns
  exact ⟨by simp, rfl⟩
set_option maxHeartbeats 1000000 in
theorem jcompare_c (a b : Int) (w : World) : Calls Tryz.prog 117 #[.int .i64 a, .int .i64 b] w fun e w' => e = .returned (.int .i64 (cmpI a b)) ∧ w = w' := by
  have h1 := fun x w => isNaN_c x w
  unfold cmpI
  rcases Int.lt_trichotomy a b with h | h | h
  · rw [if_pos h]
    go_enter Tryz.func117, Tryz.ntmps117
    go_wp2_with (go_at_call 132; refine (h1 _ _).mono ?_; rintro ee w' ⟨rfl, rfl⟩)
    go_returns
    exact ⟨rfl, rfl⟩
  · subst h
    rw [if_neg (by omega), if_neg (by omega)]
    go_enter Tryz.func117, Tryz.ntmps117
    go_wp2_with (go_at_call 132; refine (h1 _ _).mono ?_; rintro ee w' ⟨rfl, rfl⟩)
    go_returns
    exact ⟨rfl, rfl⟩
  · rw [if_neg (by omega), if_pos h]
    have d : decide (a < b) = false := by rw [decide_eq_false_iff_not]; omega
    go_enter Tryz.func117, Tryz.ntmps117
    go_wp2_with (go_at_call 132; refine (h1 _ _).mono ?_; rintro ee w' ⟨rfl, rfl⟩)
    go_returns
    exact ⟨rfl, rfl⟩
set_option maxHeartbeats 1000000 in
theorem byTime_c (x y : Jp) (W : World) : Calls Tryz.prog 107 #[jm x, jm y] W fun e w' => e = .returned (.int .i64 (cmpI x.1 y.1)) ∧ ∃ q os', w' = Go.Sort.grow (W.drewN q) os' := by
  have hc := fun w => jcompare_c x.1 y.1 w
  generalize cmpI x.1 y.1 = r at *
  obtain ⟨xp, xn⟩ := x
  obtain ⟨yp, yn⟩ := y
  go_enter Tryz.func107, Tryz.ntmps107
  go_wp2_with (go_at_call 117; refine (hc _).mono ?_; rintro ee w' ⟨rfl, rfl⟩)
  go_returns
  exact ⟨rfl, 0, _, by rw [Go.Sort.alloc_eq_grow, Go.Sort.alloc_eq_grow, Go.Sort.grow_grow]; rfl⟩
def encJ (x : Jp) : List Value := [.int .i64 x.1, .int .i64 x.2]
theorem lt_cmp (x y : Jp) : Go.Proofs.ltOf (fun a b : Jp => cmpI a.1 b.1) x y = decide (x.1 < y.1) := by
  unfold Go.Proofs.ltOf cmpI
  by_cases h1 : x.1 < y.1
  · simp [h1]
  · by_cases h2 : y.1 < x.1 <;> simp [h1, h2]
theorem swo_time : Go.Sort.SWO (Go.Proofs.ltOf fun a b : Jp => cmpI a.1 b.1) where
  irrefl x := by rw [lt_cmp]; simp
  trans x y z h1 h2 := by rw [lt_cmp] at *; simp at *; omega
  ntrans x y z h1 h2 := by rw [lt_cmp] at *; simp at *; omega
theorem flat_ps (l : List Jp) : Go.Sort.flatK encJ 2 l.toArray = (ps l).toArray := by
  apply Array.ext
  · simp [ps_length]
  · intro t h1 h2
    have ht : t < l.length * 2 := by simpa using h1
    have hi : t / 2 < l.length := by omega
    obtain ⟨g0, g1⟩ := ps_get l (t / 2) l[t / 2] (List.getElem?_eq_getElem hi)
    have e := Go.Sort.get_flatK encJ 2 l.toArray t (by simpa using ht)
    rw [getElem!_pos _ t h1] at e
    have e2 : l.toArray[t / 2]! = l[t / 2] := by rw [getElem!_pos l.toArray (t / 2) (by simpa using hi)]; simp
    rw [e, e2]
    have h2' : t < (ps l).length := by rw [ps_length]; exact ht
    have e3 : (ps l).toArray[t] = (ps l)[t] := by simp
    rw [e3]
    rcases (by omega : t = t / 2 * 2 ∨ t = t / 2 * 2 + 1) with e | e
    · have : (ps l)[t]? = some (.int .i64 l[t / 2].1) := by rw [← g0]; exact congrArg _ e
      rw [List.getElem?_eq_getElem h2'] at this
      rw [Option.some.inj this, show t % 2 = 0 by omega]; rfl
    · have : (ps l)[t]? = some (.int .i64 l[t / 2].2) := by rw [← g1]; exact congrArg _ e
      rw [List.getElem?_eq_getElem h2'] at this
      rw [Option.some.inj this, show t % 2 = 1 by omega]; rfl
theorem take_put (cur : Array Value) (xs : List Value) (h : xs.length ≤ cur.size) : (Go.Sort.putCells id 0 xs.toArray cur).toList.take xs.length = xs := by
  apply List.ext_getElem?
  intro j
  by_cases hj : j < xs.length
  · rw [List.getElem?_take_of_lt hj, Array.getElem?_toList]
    simp [Go.Sort.putCells, hj, show j < cur.size by omega]
  · rw [List.getElem?_take_eq_none (by omega), List.getElem?_eq_none (by omega)]
theorem heap_put {w : World} {g n : Nat} {os : Array Obj} {cur : Array Value} {e : TypeId} {fr : Nat × Nat} (d : Array Value) (hb : w.heap[g]? = some (.cells cur e fr)) :
    (Go.Sort.grow (Go.Sort.putRow id (Go.Sort.ahead w n) g 0 d) os).heap[g]? = some (.cells (Go.Sort.putCells id 0 d cur) e fr) := by
  have hg : g < w.heap.size := (Array.getElem?_eq_some_iff.1 hb).1
  rw [Go.Sort.heap_grow_old _ _ (by simpa using hg)]
  simp [Go.Sort.putRow, Go.Sort.mapBlock, Go.Sort.ahead, Array.getElem?_modify, hb, Go.Sort.onCells]
theorem grownBy_put {w : World} {g n : Nat} {os : Array Obj} (d : Array Value) : w.grownBy (Go.Sort.grow (Go.Sort.putRow id (Go.Sort.ahead w n) g 0 d) os) (some g) := by
  refine ⟨rfl, rfl, rfl, by simp, fun k hk hne => ?_⟩
  rw [Go.Sort.heap_grow_old _ _ (by simpa using hk)]
  have : g ≠ k := fun e => hne (by rw [e])
  simp [Go.Sort.putRow, Go.Sort.mapBlock, Go.Sort.ahead, Array.getElem?_modify, this]
set_option maxHeartbeats 2000000 in
/-- Sorted by their times, in place. -/
theorem sort_c (W0 : World) (l : List Jp) (v : Value) (w : World) (h : OwnJ w W0.heap.size v l) (hX : Ext W0 w) (hn : l.length ≤ 4096) : Calls Tryz.prog 106 #[v, .func (.func 107) #[] #[]] w fun e w' =>
    e = .returned (.tuple #[]) ∧ ∃ s : List Jp, s.Perm l ∧ s.Pairwise (fun a b => a.1 ≤ b.1) ∧ OwnJ w' W0.heap.size v s ∧ Ext W0 w' := by
  rcases h.2 with ⟨rfl, h0⟩ | ⟨g, cap, cur, rfl, hb, hg, hnc, hcm, hcs, ht⟩
  · obtain rfl : l = [] := List.eq_nil_of_length_eq_zero (by simpa using h0)
    have hc := AnyF.slices_SortFunc_none Tryz.sortJ none 0 (.func (.func 107) #[] #[]) w
    refine hc.mono ?_
    rintro e w' ⟨rfl, rfl⟩
    exact ⟨rfl, [], List.Perm.refl _, List.Pairwise.nil, h, hX⟩
  · have eg : ∀ args w, (callFunc 107 args).run Tryz.prog w = .ok (.enter 107 args) w := enters_of Tryz.func107 (by kernel_rfl) rfl
    have hH : Go.Sort.HoldsK encJ 2 w g 0 l.toArray := by
      unfold Go.Sort.HoldsK
      rw [flat_ps]
      intro j hj
      have hj' : j < l.length * 2 := by rw [← ps_length]; simpa using hj
      have h1 := World.ownsRow.cellAt h j hj'
      have h2 := World.ownsRow.frozenAt h j
      rw [Nat.zero_add]
      refine ⟨?_, h2⟩
      rw [h1, getElem!_pos _ j hj]
      simp [List.getElem?_eq_getElem (show j < (ps l).length by rw [ps_length]; exact hj')]
    have hcon := AnyQ.slices_SortFunc Tryz.sortJ 2 Tryz.isAgg61 Tryz.sizeOf61 encJ (fun _ => rfl) (fun x v hv => by simp [encJ] at hv; rcases hv with rfl | rfl <;> rfl) (fun a b : Jp => cmpI a.1 b.1) swo_time 107 #[] g 0 cap l.toArray w eg (fun _ _ _ _ x y => byTime_c x y _) hH (lt_of_block hg) (by simp; omega)
    have hsz : l.toArray.size = l.length := by simp
    rw [hsz] at hcon
    refine hcon.mono ?_
    rintro e w' ⟨rfl, d', n, os, hp, hs, rfl⟩
    obtain ⟨p1, _, p3⟩ := hp
    have hd : d'.size = l.length := by rw [p1, hsz]
    have e1 : d'.extract 0 l.length = d' := by rw [← hd]; simp
    have e2 : l.toArray.extract 0 l.length = l.toArray := by rw [← hsz]; simp
    rw [e1, e2] at p3
    have hl : d'.toList.length = l.length := by rw [Array.length_toList]; exact hd
    have hflat : Go.Sort.flatK encJ 2 d' = (ps d'.toList).toArray := by have := flat_ps d'.toList; rwa [Array.toArray_toList] at this
    have hgr : w.grownBy (Go.Proofs.sortWorldK encJ 2 w g 0 n d' os) (some g) := by
      unfold Go.Proofs.sortWorldK Go.Sort.putRowK; exact grownBy_put _
    have hB : W0.heap.size ≤ g := hb
    refine ⟨rfl, d'.toList, by simpa using p3, ?_, ?_, ext_grown hX hgr (fun k hk => by cases hk; exact hB)⟩
    · rw [List.pairwise_iff_getElem]
      intro i j hi hj hij
      have := hs i j (Nat.zero_le _) hij (by rw [hl] at hj; exact hj)
      rw [lt_cmp, decide_eq_false_iff_not, getElem!_pos d' j (by simpa using hj), getElem!_pos d' i (by simpa using hi)] at this
      simp only [Array.getElem_toList]
      omega
    · refine ⟨by rw [ps_length], .inr ⟨g, cap, Go.Sort.putCells id 0 (ps d'.toList).toArray cur, by rw [hl], hb, ?_, by rw [hl]; exact hnc, hcm, by simp [Go.Sort.putCells, hcs], ?_⟩⟩
      · unfold Go.Proofs.sortWorldK Go.Sort.putRowK
        rw [hflat]
        exact heap_put _ hg
      · have := take_put cur (ps d'.toList) (by rw [ps_length, hl, hcs]; exact Nat.mul_le_mul_right _ hnc)
        rwa [ps_length] at this
end Go.Proofs.YtkfhihnmlaomcaaGreat
