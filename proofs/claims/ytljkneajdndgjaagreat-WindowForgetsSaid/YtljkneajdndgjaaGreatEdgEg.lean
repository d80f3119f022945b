/-
  A helper of ours: no claim of its own. Layer 10 (edge): what is made of each row's jumps (edge.each).
-/
import Derived.Test.YtljkneajdndgjaaGreatStepR
import Derived.Test.YtljkneajdndgjaaGreatIdx
import Derived.Test.YtljkneajdndgjaaGreatShelf
import Derived.Lib.RowBridge
import Derived.Test.YtljkneajdndgjaaGreatStepE
import Derived.Test.YtljkneajdndgjaaGreatSort
import Derived.StillTail
import Derived.Lib.SliceRun
import Derived.Test.YtljkneajdndgjaaGreatEdgM
import Derived.Test.YtljkneajdndgjaaGreatHopR
set_option linter.unusedVariables false
set_option linter.unusedSimpArgs false
namespace Go.Proofs.YtljkneajdndgjaaGreat
open Go.RowKit
theorem itake_put (cur : Array Value) (xs : List Value) (h : xs.length ≤ cur.size) : (Go.Sort.putCells id 0 xs.toArray cur).toList.take xs.length = xs := by
  apply List.ext_getElem?
  intro i
  by_cases hi : i < xs.length
  · rw [List.getElem?_take_of_lt hi, Array.getElem?_toList]
    simp [Go.Sort.putCells, hi, show i < cur.size by omega]
  · rw [List.getElem?_eq_none (by rw [List.length_take]; omega), List.getElem?_eq_none (by omega)]
theorem iheap_put {w : World} {g n : Nat} {os : Array Obj} {cur : Array Value} {e : TypeId} {fr : Nat × Nat} (d : Array Value) (hb : w.heap[g]? = some (.cells cur e fr)) :
    (Go.Sort.grow (Go.Sort.putRow id (Go.Sort.ahead w n) g 0 d) os).heap[g]? = some (.cells (Go.Sort.putCells id 0 d cur) e fr) := by
  have hg : g < w.heap.size := (Array.getElem?_eq_some_iff.1 hb).1
  rw [Go.Sort.heap_grow_old _ _ (by simpa using hg)]
  simp [Go.Sort.putRow, Go.Sort.mapBlock, Go.Sort.ahead, Array.getElem?_modify, hb, Go.Sort.onCells]
theorem igrown_put {w : World} {g n : Nat} {os : Array Obj} (d : Array Value) : w.grownBy (Go.Sort.grow (Go.Sort.putRow id (Go.Sort.ahead w n) g 0 d) os) (some g) := by
  refine ⟨rfl, rfl, rfl, by simp, fun k hk hne => ?_⟩
  rw [Go.Sort.heap_grow_old _ _ (by simpa using hk)]
  have : g ≠ k := fun e => hne (by rw [e])
  simp [Go.Sort.putRow, Go.Sort.mapBlock, Go.Sort.ahead, Array.getElem?_modify, this]
theorem iput_map {α : Type} [Inhabited α] (enc : α → Value) (d : Array α) (c : Array Value) : Go.Sort.putCells enc 0 d c = Go.Sort.putCells id 0 (d.map enc) c := by
  unfold Go.Sort.putCells
  congr 1
  funext k x
  by_cases hk : k < d.size
  · rw [if_pos (by omega), if_pos (by simpa using hk)]
    simp [getElem!_pos d k hk, hk]
  · rw [if_neg (by omega), if_neg (by simpa using hk)]
theorem irow_map {α : Type} [Inhabited α] (enc : α → Value) (w : World) (g : Nat) (d : Array α) : Go.Sort.putRow enc w g 0 d = Go.Sort.putRow id w g 0 (d.map enc) := by
  unfold Go.Sort.putRow
  congr 1
  funext c
  exact iput_map enc d c
/-- Numbers in their order. -/
def srt (D : List Int) : List Int := D.mergeSort fun x y => decide (x ≤ y)
theorem srt_perm (D : List Int) : (srt D).Perm D := List.mergeSort_perm _ _
theorem srt_asc (D : List Int) : (srt D).Pairwise (· ≤ ·) := by
  have := List.pairwise_mergeSort (le := fun x y : Int => decide (x ≤ y)) (fun a b c h1 h2 => by simp at *; omega) (fun a b => by simp; omega) D
  exact this.imp fun h => by simpa using h
theorem srt_len (D : List Int) : (srt D).length = D.length := (srt_perm D).length_eq
theorem srt_mem (D : List Int) (x : Int) : x ∈ srt D ↔ x ∈ D := (srt_perm D).mem_iff
theorem srt_lt {D : List Int} (h : D.Nodup) : (srt D).Pairwise (· < ·) := by
  have h1 := srt_asc D
  have h2 : (srt D).Nodup := (srt_perm D).nodup_iff.2 h
  exact (h1.and h2).imp fun ⟨a, b⟩ => by omega
set_option maxHeartbeats 2000000 in
/-- Sorted in place. -/
theorem isort_c (B : Nat) (D : List Int) (v : Value) (w : World) (h : OwnZ w B v D) (hn : D.length ≤ 1000000000) : Calls Tryz.prog 110 #[v] w fun e w' => e = .returned (.tuple #[]) ∧ OwnZ w' B v (srt D) ∧ Fr (ob v) w w' := by
  have hl := srt_len D
  rcases h.2 with ⟨rfl, h0⟩ | ⟨g, cap, cur, rfl, hb, hg, hnc, hcm, hcs, ht⟩
  · obtain rfl : D = [] := List.eq_nil_of_length_eq_zero (by simpa using h0)
    refine (Tryz.slices_Sort_int_none none 0 w).mono ?_
    rintro e w' ⟨rfl, rfl⟩
    exact ⟨rfl, by rw [show srt [] = [] by simp [srt]]; exact h, Fr.refl _ _⟩
  · have hH : Go.Sort.Holds (Value.int .i64) w g 0 D.toArray := by
      intro j hj
      have hj' : j < D.length := by simpa using hj
      have h1 := World.ownsRow.cellAt h j (by omega)
      have h2 := World.ownsRow.frozenAt h j
      rw [Nat.zero_add]
      refine ⟨?_, h2⟩
      rw [h1, getElem!_pos D.toArray j hj]
      simp [zc, hj']
    refine (Tryz.slices_Sort_int g 0 cap D w hH (lt_of_block hg) (by omega)).mono ?_
    rintro e w' ⟨rfl, n, os, rfl⟩
    refine ⟨rfl, ?_, (Fr.refl _ _).grown (by rw [irow_map]; exact igrown_put _) (fun k hk => by cases hk; exact .inl (by simp [ob, Value.ownBlock]))⟩
    have hmap : ((D.mergeSort fun x y => decide (x ≤ y)).toArray.map (Value.int .i64)) = (zc (srt D)).toArray := by simp [zc, srt]
    have hzl : (zc (srt D)).length = D.length := by rw [zc_len, hl]
    refine ⟨by rw [zc_len, Nat.mul_one], .inr ⟨g, cap, Go.Sort.putCells id 0 (zc (srt D)).toArray cur, by rw [hl], hb, ?_, by rw [hl]; exact hnc, hcm, by simp [Go.Sort.putCells, hcs], ?_⟩⟩
    · rw [irow_map, hmap]
      exact iheap_put _ hg
    · have := itake_put cur (zc (srt D)) (by rw [hzl, hcs]; omega)
      rwa [hzl, ← hl, ← Nat.mul_one (List.length _)] at this
end Go.Proofs.YtljkneajdndgjaaGreat
set_option linter.unusedVariables false
set_option linter.unusedSimpArgs false
namespace Go.Proofs.YtljkneajdndgjaaGreat
open Go.RowKit
theorem comp_asc {D : List Int} (hD : D.Pairwise (· ≤ ·)) : ∀ m, m ≤ D.length → (Go.Lib.compactUpTo D.toArray m).Pairwise (· < ·) ∧ ∀ x, x ∈ Go.Lib.compactUpTo D.toArray m ↔ x ∈ D.take m
  | 0, _ => by simp [Go.Lib.compactUpTo]
  | m + 1, hm => by
    obtain ⟨i1, i2⟩ := comp_asc hD m (by omega)
    have hml : m < D.length := by omega
    have hd : D.toArray[m]! = D[m] := by rw [getElem!_pos D.toArray m (by simpa using hml)]; simp
    have ht : D.take (m + 1) = D.take m ++ [D[m]] := by rw [List.take_add_one, List.getElem?_eq_getElem hml]; rfl
    rw [Go.Lib.compactUpTo_succ, ht]
    by_cases hk : Go.Lib.keeps D.toArray m = true
    · rw [if_pos hk, hd]
      refine ⟨?_, fun x => by rw [List.mem_append, List.mem_append, i2]⟩
      rw [List.pairwise_append]
      refine ⟨i1, by simp, fun x hx y hy => ?_⟩
      rw [List.mem_singleton] at hy
      subst hy
      rw [i2] at hx
      obtain ⟨i, hi⟩ := List.getElem?_of_mem hx
      rw [List.getElem?_take] at hi
      split at hi
      case isFalse => cases hi
      rename_i him
      have hil : i < D.length := by omega
      rw [List.getElem?_eq_getElem hil] at hi
      obtain rfl := Option.some.inj hi
      have h0 : m - 1 < D.length := by omega
      have hd2 : D.toArray[m - 1]! = D[m - 1] := by rw [getElem!_pos D.toArray (m - 1) (by simpa using h0)]; simp
      unfold Go.Lib.keeps at hk
      rw [decide_eq_true_iff, hd, hd2] at hk
      have hP := List.pairwise_iff_getElem.1 hD
      have e1 : D[i] ≤ D[m - 1] := by
        rcases Nat.eq_or_lt_of_le (show i ≤ m - 1 by omega) with h | h
        · subst h; exact Int.le_refl _
        · exact hP i (m - 1) hil h0 h
      have e2 := hP (m - 1) m h0 hml (by omega)
      rcases hk with hk | hk
      · omega
      · omega
    · have hk2 : Go.Lib.keeps D.toArray m = false := by simpa using hk
      rw [if_neg (by rw [hk2]; decide), List.append_nil]
      refine ⟨i1, fun x => ?_⟩
      rw [i2, List.mem_append, List.mem_singleton]
      have h0 : m - 1 < D.length := by omega
      have hd2 : D.toArray[m - 1]! = D[m - 1] := by rw [getElem!_pos D.toArray (m - 1) (by simpa using h0)]; simp
      unfold Go.Lib.keeps at hk
      rw [decide_eq_true_iff, hd, hd2] at hk
      have hm0 : m ≠ 0 := fun h => hk (.inl h)
      have heq : D[m] = D[m - 1] := Classical.byContradiction fun h => hk (.inr h)
      refine ⟨.inl, fun h => h.elim id fun h => ?_⟩
      rw [h, heq]
      exact List.mem_of_getElem? (i := m - 1) (by rw [List.getElem?_take, if_pos (by omega), List.getElem?_eq_getElem h0])
/-- Sorted numbers, each once. -/
theorem compact_asc {D : List Int} (hD : D.Pairwise (· ≤ ·)) : (Go.Lib.compact D).Pairwise (· < ·) ∧ ∀ x, x ∈ Go.Lib.compact D ↔ x ∈ D := by
  obtain ⟨h1, h2⟩ := comp_asc hD D.length (Nat.le_refl _)
  exact ⟨h1, fun x => by rw [show Go.Lib.compact D = Go.Lib.compactUpTo D.toArray D.length from rfl, h2, List.take_length]⟩
theorem cheap_put {w : World} {g n : Nat} {cur : Array Value} {e : TypeId} {fr : Nat × Nat} (d : Array Value) (hb : w.heap[g]? = some (.cells cur e fr)) :
    (Go.Sort.putRow id (Go.Sort.ahead w n) g 0 d).heap[g]? = some (.cells (Go.Sort.putCells id 0 d cur) e fr) := by
  have hg : g < w.heap.size := (Array.getElem?_eq_some_iff.1 hb).1
  simp [Go.Sort.putRow, Go.Sort.mapBlock, Go.Sort.ahead, Array.getElem?_modify, hb, Go.Sort.onCells]
theorem cgrown_put {w : World} {g n : Nat} (d : Array Value) : w.grownBy (Go.Sort.putRow id (Go.Sort.ahead w n) g 0 d) (some g) := by
  refine ⟨rfl, rfl, rfl, by simp, fun k hk hne => ?_⟩
  have : g ≠ k := fun e => hne (by rw [e])
  simp [Go.Sort.putRow, Go.Sort.mapBlock, Go.Sort.ahead, Array.getElem?_modify, this]
set_option maxHeartbeats 2000000 in
theorem icompact_c (B : Nat) (D : List Int) (v : Value) (w : World) (h : OwnZ w B v D) (hn : D.length ≤ 1000000000) : Calls Tryz.prog 172 #[v] w fun e w' => ∃ v', e = .returned v' ∧ OwnZ w' B v' (Go.Lib.compact D) ∧ Fr (ob v) w w' := by
  have hl := Go.Lib.compact_length_le D
  rcases h.2 with ⟨rfl, h0⟩ | ⟨g, cap, cur, rfl, hb, hg, hnc, hcm, hcs, ht⟩
  · obtain rfl : D = [] := List.eq_nil_of_length_eq_zero (by simpa using h0)
    refine (Tryz.slices_Compact_int_empty none 0 w).mono ?_
    rintro e w' ⟨rfl, rfl⟩
    exact ⟨_, rfl, by rw [show Go.Lib.compact ([] : List Int) = [] by rfl]; exact h, Fr.refl _ _⟩
  · have hH : Go.Sort.Holds (Value.int .i64) w g 0 D.toArray := by
      intro j hj
      have hj' : j < D.length := by simpa using hj
      have h1 := World.ownsRow.cellAt h j (by omega)
      have h2 := World.ownsRow.frozenAt h j
      rw [Nat.zero_add]
      refine ⟨?_, h2⟩
      rw [h1, getElem!_pos D.toArray j hj]
      simp [zc, hj']
    refine (Tryz.slices_Compact_int g 0 cap D w hH (by omega) hnc).mono ?_
    rintro e w' ⟨rfl, n, rfl⟩
    refine ⟨_, rfl, ?_, (Fr.refl _ _).grown (by rw [irow_map]; exact cgrown_put _) (fun k hk => by cases hk; exact .inl (by simp [ob, Value.ownBlock]))⟩
    obtain ⟨Y, hY⟩ : ∃ Y, Y = Go.Lib.compact D := ⟨_, rfl⟩
    rw [← hY] at hl ⊢
    have hzl : (zc Y).length = Y.length := zc_len Y
    refine ⟨by rw [zc_len, Nat.mul_one], .inr ⟨g, cap, Go.Sort.putCells id 0 (zc (Y ++ List.replicate (D.length - Y.length) 0)).toArray cur, rfl, hb, ?_, by omega, hcm, by simp [Go.Sort.putCells, hcs], ?_⟩⟩
    · have hmap : ((Y ++ List.replicate (D.length - Y.length) 0).toArray.map (Value.int .i64)) = (zc (Y ++ List.replicate (D.length - Y.length) 0)).toArray := by simp [zc]
      rw [irow_map, hmap]
      exact cheap_put _ hg
    · have hZl : (zc (Y ++ List.replicate (D.length - Y.length) 0)).length = D.length := by rw [zc_len, List.length_append, List.length_replicate]; omega
      have h1 := itake_put cur (zc (Y ++ List.replicate (D.length - Y.length) 0)) (by rw [hZl, hcs]; omega)
      obtain ⟨X, hX⟩ : ∃ X, X = (Go.Sort.putCells id 0 (zc (Y ++ List.replicate (D.length - Y.length) 0)).toArray cur).toList := ⟨_, rfl⟩
      rw [← hX] at h1 ⊢
      have e : X.take Y.length = (X.take (zc (Y ++ List.replicate (D.length - Y.length) 0)).length).take Y.length := by rw [List.take_take, Nat.min_eq_left (by omega)]
      rw [Nat.mul_one, e, h1, zc_append, List.take_append_of_le_length (by omega), List.take_of_length_le (by omega)]
end Go.Proofs.YtljkneajdndgjaaGreat
set_option linter.unusedVariables false
set_option linter.unusedSimpArgs false
namespace Go.Proofs.YtljkneajdndgjaaGreat
open Go.RowKit
attribute [local go_sem] GW.cell GW.frozen In.eq_true In.le_true In.ne In.ne' In.ne_add In.ne_add' In.lt_add Upto.le_true Upto.le_add Upto.lt_add
end Go.Proofs.YtljkneajdndgjaaGreat
set_option linter.unusedVariables false
set_option linter.unusedSimpArgs false
namespace Go.Proofs.YtljkneajdndgjaaGreat
open Go.RowKit
attribute [local go_sem] GW.cell GW.frozen In.eq_true In.le_true In.ne In.ne' In.ne_add In.ne_add' In.lt_add Upto.le_true Upto.le_add Upto.lt_add
end Go.Proofs.YtljkneajdndgjaaGreat
set_option linter.unusedVariables false
set_option linter.unusedSimpArgs false
namespace Go.Proofs.YtljkneajdndgjaaGreat
open Go.RowKit
attribute [local go_sem] GW.cell GW.frozen In.eq_true In.le_true In.ne In.ne' In.ne_add In.ne_add' In.lt_add Upto.le_true Upto.le_add Upto.lt_add
end Go.Proofs.YtljkneajdndgjaaGreat
set_option linter.unusedVariables false
set_option linter.unusedSimpArgs false
namespace Go.Proofs.YtljkneajdndgjaaGreat
open Go.RowKit
attribute [local go_sem] GW.cell GW.frozen In.eq_true In.le_true In.ne In.ne' In.ne_add In.ne_add' In.lt_add Upto.le_true Upto.le_add Upto.lt_add
end Go.Proofs.YtljkneajdndgjaaGreat
set_option linter.unusedVariables false
set_option linter.unusedSimpArgs false
namespace Go.Proofs.YtljkneajdndgjaaGreat
open Go.RowKit
attribute [local go_sem] GW.cell GW.frozen In.eq_true In.le_true In.ne In.ne' In.ne_add In.ne_add' In.lt_add Upto.le_true Upto.le_add Upto.lt_add Oper.semAt_some wide_depth wide_fn
theorem evE_ok {op : List Jp → Int × List Jp} : ∀ {G : List Gp}, (∀ g ∈ G, (op g.2).1 = 0) → evE op G = 0
  | [], _ => rfl
  | g :: t, h => by rw [evE, if_pos (h g (by simp)), evE_ok fun x hx => h x (by simp [hx])]
theorem evE_bad {op : List Jp → Int × List Jp} : ∀ {G : List Gp} {k : Nat} {x : Gp}, (∀ g ∈ G.take k, (op g.2).1 = 0) → G[k]? = some x → (op x.2).1 ≠ 0 → evE op G = (op x.2).1
  | g :: t, 0, x, _, hx, h => by
    obtain rfl : g = x := by simpa using hx
    rw [evE, if_neg h]
  | g :: t, k + 1, x, hp, hx, h => by
    rw [evE, if_pos (hp g (by simp)), evE_bad (k := k) (fun y hy => hp y (by simp [hy])) (by simpa using hx) h]
theorem each_bad {op : List Jp → Int × List Jp} {G : List Gp} {k : Nat} {x : Gp} (hp : ∀ g ∈ G.take k, (op g.2).1 = 0) (hx : G[k]? = some x) (h : (op x.2).1 ≠ 0) : eachE op G = (op x.2).1 := by
  unfold eachE
  rw [evE_bad hp hx h, if_neg h]
theorem ob_obj {w : World} {base e size n : Nat} {v : Value} {xs : List Value} (h : w.ownsRow base e size v n xs) : ∀ y ∈ ob v, ∃ T vs, Ob w y T vs := by
  intro y hy
  have hy' : v.ownBlock = some y := by simpa [ob] using hy
  rcases h.2 with ⟨rfl, _⟩ | ⟨g, cap, cur, rfl, hb, hg, _⟩
  · cases hy'
  · have : y = g := by simpa [Value.ownBlock] using hy'.symm
    subst this
    exact ⟨e, cur.toList, by unfold Ob; simpa using hg⟩
def ownF (B : Nat) (q : List Vl) (R : List Jp) : Fact := .st (fun u w => ∃ M2, eds M2 = R.map (fun j => (q, j)) ∧ OwnEr w B u M2) (fun _ _ _ h k => by obtain ⟨M2, h1, h2⟩ := h; exact ⟨M2, h1, h2.ext k⟩)
theorem grp_len : ∀ l : List Ed, (grp l).length ≤ l.length
  | [] => Nat.le_refl _
  | e :: r => by
    have ih := grp_len r
    unfold grp
    split
    · simp
    · rename_i q f t h
      rw [h] at ih
      split <;> simp only [List.length_cons] at ih ⊢ <;> omega

end Go.Proofs.YtljkneajdndgjaaGreat
set_option linter.unusedVariables false
set_option linter.unusedSimpArgs false
namespace Go.Proofs.YtljkneajdndgjaaGreat
open Go.RowKit
attribute [local go_sem] GW.cell GW.frozen In.eq_true In.le_true In.ne In.ne' In.ne_add In.ne_add' In.lt_add Upto.le_true Upto.le_add Upto.lt_add
theorem mayE_len {l : List Ed} (h : mayE l = true) : l.length ≤ 4096 := (mayE_iff.1 h).1
theorem mayE_jl {l : List Ed} (h : mayE l = true) (r : List Vl) : (jmps l r).length ≤ 1024 := by
  obtain ⟨-, h2, h3⟩ := mayE_iff.1 h
  obtain ⟨-, k2⟩ := rowsL_ok h2.1
  by_cases hr : r ∈ rowsL l
  · have := h3 (r, jmps l r) (by rw [grp_eq h2]; exact List.mem_map.2 ⟨r, hr, rfl⟩)
    exact mayJ_len this
  · have : jmps l r = [] := by
      apply List.eq_nil_iff_forall_not_mem.2
      intro j hj
      exact hr ((k2 r).2 ⟨_, jmps_mem.1 hj, rfl⟩)
    rw [this]; simp
end Go.Proofs.YtljkneajdndgjaaGreat
set_option linter.unusedVariables false
set_option linter.unusedSimpArgs false
namespace Go.Proofs.YtljkneajdndgjaaGreat
open Go.RowKit
attribute [local go_sem] GW.cell GW.frozen In.eq_true In.le_true In.ne In.ne' In.ne_add In.ne_add' In.lt_add Upto.le_true Upto.le_add Upto.lt_add Oper.semAt_some wide_depth wide_fn
end Go.Proofs.YtljkneajdndgjaaGreat
