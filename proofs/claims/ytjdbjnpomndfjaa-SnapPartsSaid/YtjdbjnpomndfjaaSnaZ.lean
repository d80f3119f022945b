/-
  A helper of ours: no claim of its own. Lists of numbers of one's own sorted in place (the library's sort, laid by the guide's shelf).
-/
import Derived.Test.YtjdbjnpomndfjaaStepR
import Derived.Test.YtjdbjnpomndfjaaIdx
import Derived.Test.YtjdbjnpomndfjaaShelf
set_option linter.unusedVariables false
set_option linter.unusedSimpArgs false
namespace Go.Proofs.Ytjdbjnpomndfjaa
open Go.RowKit
theorem itake_put (cur : Array Value) (xs : List Value) (h : xs.length ≤ cur.size) : (Go.Sort.putCells id 0 xs.toArray cur).toList.take xs.length = xs := by
  apply List.ext_getElem?
  intro i
  by_cases hi : i < xs.length
  · rw [List.getElem?_take_of_lt hi, Array.getElem?_toList]
    simp [Go.Sort.putCells, hi, show i < cur.size by omega]
  · rw [List.getElem?_eq_none (by rw [List.length_take]; omega), List.getElem?_eq_none (by omega)]
theorem iheap_put {w : World} {g n : Nat} {os : Array Obj} {cur : Array Value} {e : TypeId} {fr : Nat × Nat} (d : Array Value) (hb : w.heap[g]? = some (.cells cur e fr)) :
    (Go.Sort.grow (Go.Sort.putRow id (Go.Sort.ahead w n) g 0 d) os).heap[g]? = some (.cells (Go.Sort.putCells id 0 d cur) e fr) := by
  have hg : g < w.heap.size := (Array.getElem?_eq_some_iff.1 hb).1
  rw [Go.Sort.heap_grow_old _ _ (by simpa using hg)]
  simp [Go.Sort.putRow, Go.Sort.mapBlock, Go.Sort.ahead, Array.getElem?_modify, hb, Go.Sort.onCells]
theorem igrown_put {w : World} {g n : Nat} {os : Array Obj} (d : Array Value) : w.grownBy (Go.Sort.grow (Go.Sort.putRow id (Go.Sort.ahead w n) g 0 d) os) (some g) := by
  refine ⟨rfl, rfl, rfl, by simp, fun k hk hne => ?_⟩
  rw [Go.Sort.heap_grow_old _ _ (by simpa using hk)]
  have : g ≠ k := fun e => hne (by rw [e])
  simp [Go.Sort.putRow, Go.Sort.mapBlock, Go.Sort.ahead, Array.getElem?_modify, this]
theorem iput_map {α : Type} [Inhabited α] (enc : α → Value) (d : Array α) (c : Array Value) : Go.Sort.putCells enc 0 d c = Go.Sort.putCells id 0 (d.map enc) c := by
  unfold Go.Sort.putCells
  congr 1
  funext k x
  by_cases hk : k < d.size
  · rw [if_pos (by omega), if_pos (by simpa using hk)]
    simp [getElem!_pos d k hk, hk]
  · rw [if_neg (by omega), if_neg (by simpa using hk)]
theorem irow_map {α : Type} [Inhabited α] (enc : α → Value) (w : World) (g : Nat) (d : Array α) : Go.Sort.putRow enc w g 0 d = Go.Sort.putRow id w g 0 (d.map enc) := by
  unfold Go.Sort.putRow
  congr 1
  funext c
  exact iput_map enc d c
/-- Numbers in their order. -/
def srt (D : List Int) : List Int := D.mergeSort fun x y => decide (x ≤ y)
theorem srt_perm (D : List Int) : (srt D).Perm D := List.mergeSort_perm _ _
theorem srt_asc (D : List Int) : (srt D).Pairwise (· ≤ ·) := by
  have := List.pairwise_mergeSort (le := fun x y : Int => decide (x ≤ y)) (fun a b c h1 h2 => by simp at *; omega) (fun a b => by simp; omega) D
  exact this.imp fun h => by simpa using h
theorem srt_len (D : List Int) : (srt D).length = D.length := (srt_perm D).length_eq
theorem srt_mem (D : List Int) (x : Int) : x ∈ srt D ↔ x ∈ D := (srt_perm D).mem_iff
theorem srt_lt {D : List Int} (h : D.Nodup) : (srt D).Pairwise (· < ·) := by
  have h1 := srt_asc D
  have h2 : (srt D).Nodup := (srt_perm D).nodup_iff.2 h
  exact (h1.and h2).imp fun ⟨a, b⟩ => by omega
set_option maxHeartbeats 2000000 in
/-- Sorted in place. -/
theorem isort_c (B : Nat) (D : List Int) (v : Value) (w : World) (h : OwnZ w B v D) (hn : D.length ≤ 1000000000) : Calls Try.prog 80 #[v] w fun e w' => e = .returned (.tuple #[]) ∧ OwnZ w' B v (srt D) ∧ Fr (ob v) w w' := by
  have hl := srt_len D
  rcases h.2 with ⟨rfl, h0⟩ | ⟨g, cap, cur, rfl, hb, hg, hnc, hcm, hcs, ht⟩
  · obtain rfl : D = [] := List.eq_nil_of_length_eq_zero (by simpa using h0)
    refine (Try.slices_Sort_int_none none 0 w).mono ?_
    rintro e w' ⟨rfl, rfl⟩
    exact ⟨rfl, by rw [show srt [] = [] by simp [srt]]; exact h, Fr.refl _ _⟩
  · have hH : Go.Sort.Holds (Value.int .i64) w g 0 D.toArray := by
      intro j hj
      have hj' : j < D.length := by simpa using hj
      have h1 := World.ownsRow.cellAt h j (by omega)
      have h2 := World.ownsRow.frozenAt h j
      rw [Nat.zero_add]
      refine ⟨?_, h2⟩
      rw [h1, getElem!_pos D.toArray j hj]
      simp [zc, hj']
    refine (Try.slices_Sort_int g 0 cap D w hH (lt_of_block hg) (by omega)).mono ?_
    rintro e w' ⟨rfl, n, os, rfl⟩
    refine ⟨rfl, ?_, (Fr.refl _ _).grown (by rw [irow_map]; exact igrown_put _) (fun k hk => by cases hk; exact .inl (by simp [ob, Value.ownBlock]))⟩
    have hmap : ((D.mergeSort fun x y => decide (x ≤ y)).toArray.map (Value.int .i64)) = (zc (srt D)).toArray := by simp [zc, srt]
    have hzl : (zc (srt D)).length = D.length := by rw [zc_len, hl]
    refine ⟨by rw [zc_len, Nat.mul_one], .inr ⟨g, cap, Go.Sort.putCells id 0 (zc (srt D)).toArray cur, by rw [hl], hb, ?_, by rw [hl]; exact hnc, hcm, by simp [Go.Sort.putCells, hcs], ?_⟩⟩
    · rw [irow_map, hmap]
      exact iheap_put _ hg
    · have := itake_put cur (zc (srt D)) (by rw [hzl, hcs]; omega)
      rwa [hzl, ← hl, ← Nat.mul_one (List.length _)] at this
end Go.Proofs.Ytjdbjnpomndfjaa
