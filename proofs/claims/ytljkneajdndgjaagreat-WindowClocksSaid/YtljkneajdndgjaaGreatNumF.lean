/-
  A helper of ours: no claim of its own. num.Floor alone, for seats without a shelf.
-/
import Derived.Test.YtljkneajdndgjaaGreatCouK
import Derived.Test.YtljkneajdndgjaaGreatReg
import Derived.Sort.LoopGhostIn
import Derived.Test.YtljkneajdndgjaaGreatStepR
import Derived.Test.YtljkneajdndgjaaGreatIdx
import Derived.Test.YtljkneajdndgjaaGreatShelf
import Derived.Lib.RowBridge
import Derived.Test.YtljkneajdndgjaaGreatRows
import Derived.Test.YtljkneajdndgjaaGreatMem
import Derived.Handy
import Derived.WalkSmall
set_option linter.unusedVariables false
set_option linter.unusedSimpArgs false
namespace Go.Proofs.YtljkneajdndgjaaGreat
open Go.RowKit
attribute [local go_sem] GW.cell GW.frozen In.eq_true In.le_true In.ne In.ne' In.ne_add In.ne_add' In.lt_add Upto.le_true Upto.le_add Upto.lt_add Oper.semAt_some wide_depth wide_fn
/-- The increases of a function. -/
def incL (J : List Jp) : List Jp := J.filter fun j => decide (-1 < j.1) && decide (0 < j.2)
theorem incL_next {J : List Jp} {k : Nat} {j : Jp} (h : J[k]? = some j) : incL (J.take (k + 1)) = incL (J.take k) ++ (if -1 < j.1 ∧ 0 < j.2 then [j] else []) := by
  unfold incL
  rw [List.take_add_one, h, List.filter_append]
  congr 1
  by_cases c : -1 < j.1 ∧ 0 < j.2
  · rw [if_pos c]; simp [c.1, c.2]
  · rw [if_neg c]
    by_cases c1 : -1 < j.1
    · have c2 : ¬ 0 < j.2 := fun h => c ⟨c1, h⟩
      simp [c2]
    · simp [c1]
theorem incL_pre (J : List Jp) (k : Nat) : ∃ T, incL J = incL (J.take k) ++ T := ⟨incL (J.drop k), by unfold incL; rw [← List.filter_append, List.take_append_drop]⟩
theorem incL_at {J : List Jp} {k : Nat} {j : Jp} (h : J[k]? = some j) (c : -1 < j.1 ∧ 0 < j.2) : (incL J)[(incL (J.take k)).length]? = some j := by
  obtain ⟨T, hT⟩ := incL_pre J (k + 1)
  rw [hT, incL_next h, if_pos c, List.append_assoc, List.getElem?_append_right (Nat.le_refl _), Nat.sub_self]
  rfl
def Hinc (j : Jp) (vs : Array Value) (W : World) : Prop := vs = #[.agg #[.int .i64 j.1, .int .i64 j.2]]
/-- What the iterator reads. -/
def KpI (bj : Nat) (v : Value) (J : List Jp) (A : World) : Prop := Ob A bj 73 [v] ∧ Jw A [] v J
set_option maxHeartbeats 2000000 in
set_option maxRecDepth 100000 in
theorem increases_c (v : Value) (n c : Nat) (A : Option Addr) (hv : v = .slice A n c) (w : World) : Calls Tryz.prog 171 #[v] w fun e w' => e = .returned (.func (.func 199) #[] #[.pointer (some ⟨w.heap.size, 0, none⟩)]) ∧ Ob w' w.heap.size 73 [v] ∧ Ext w w' := by
  subst hv
  have o := hide (Ob.new w 73 [.slice A n c])
  go_enter Tryz.func171, Tryz.ntmps171
  go_wp2_with fail
  go_returns
  exact ⟨rfl, o.out, (Ext.refl w).alloc _⟩
set_option maxHeartbeats 8000000 in
set_option maxRecDepth 100000 in
theorem increases_seqj (J : List Jp) (hl : J.length ≤ 1000000) (v : Value) (w : World) (bj : Nat) :
    SeqsJ (KpI bj v J) Tryz.prog 199 #[.pointer (some ⟨bj, 0, none⟩)] Hinc (incL J) w := by
  intro l j0 jx0 W hW hJ hJx hK hY h0
  have hK0 := hK 0 W h0
  obtain ⟨JA, jcap, rfl, hjc, hjm, -⟩ := jw_form hK0.2
  have q0 := hK0.1.cell 0 rfl
  have lj := hK0.1.lt
  have hK' := hide hK
  have hJ' := hide hJ
  have hY' := hide hY
  have h0' := hide h0
  haveI : In bj W := ⟨lj⟩
  clear hJ hY hW hJx h0 hK hK0
  refine (callsIn_wide (n := 1)).1 ?_
  refine callsIn_of_wp Tryz.func199 rfl trivial ?_ rfl
  simp only [Tryz.ntmps199, List.size_toArray, List.length_cons, List.length_nil, Nat.reduceAdd, Nat.reduceSub, Array.replicate_succ, Array.replicate_zero, List.push_toArray, List.append_toArray, List.nil_append, List.cons_append]
  gi_wp2
  gi_loopg [7] J.length (fun gh t wr => ∃ (k q : Nat), t = .int .i64 k ∧ k + gh = J.length ∧ Hid (q = (incL (J.take k)).length) ∧ Hid (j0 q wr))
  case atStart => exact ⟨0, 0, by go_num, by omega, rfl, h0'⟩
  case round =>
    obtain ⟨k, q, rfl, hk, hq, hJk⟩ := hrel
    clear h0' q0
    by_cases hlt : k < J.length
    · obtain ⟨⟨x, y⟩, hj⟩ : ∃ j, J[k]? = some j := ⟨_, List.getElem?_eq_getElem hlt⟩
      have hnx := hide (incL_next hj)
      obtain ⟨A', cp', e', -, -, hat⟩ := jw_form (hK'.out q wr hJk.out).2
      simp only [Value.slice.injEq] at e'
      obtain ⟨rfl, -, rfl⟩ := e'
      obtain ⟨g, og, rfl, -, hgl, d0, d1⟩ := hat k _ hj
      simp only at d0 d1
      haveI : In g wr := ⟨hgl⟩
      have hJa := hide ((hJ'.out q).ext _ _ hJk.out ((Ext.refl wr).alloc (.cells #[.int .i64 x, .int .i64 y] 125)))
      clear hat
      by_cases c1 : -1 < x
      · by_cases c2 : 0 < y
        · have hat2 := incL_at hj (show -1 < (x, y).1 ∧ 0 < (x, y).2 from ⟨c1, c2⟩)
          rw [← hq.out] at hat2
          have hqn : Hid (q + 1 = (incL (J.take (k + 1))).length) := by show _ = _; rw [hnx.out, if_pos ⟨c1, c2⟩, List.length_append, ← hq.out]; rfl
          obtain ⟨fn, tmps, assign, body, hy, hRd⟩ := hY'.out q (x, y) #[.agg #[.int .i64 x, .int .i64 y]] _ hat2 hJa.out rfl
          replace hRd := hide hRd
          have hql := hide (List.getElem?_eq_some_iff.1 hat2).1
          replace hnx := hide hnx
          clear hat2 hj
          gi_wp2
          refine hRd.out.mono ?_
          rintro ee W3 (⟨rfl, hJ3, -⟩ | ⟨rfl, hJx3, -⟩)
          · replace hJ3 := hide hJ3
            gi_wp2
            gi_roundg (J.length - (k + 1))
            case measure => omega
            case rel => exact ⟨k + 1, q + 1, by go_num, by omega, hqn, hJ3⟩
          · replace hJx3 := hide hJx3
            gi_wp2
            refine bodyPost_ret (results_none rfl _ _ _) rfl ?_
            exact ⟨⟨_, rfl⟩, .inr ⟨q + 1, by have := hql.out; omega, hJx3.out⟩⟩
        · have hqn : Hid (q = (incL (J.take (k + 1))).length) := by show _ = _; rw [hnx.out, if_neg (fun h => c2 h.2), List.append_nil]; exact hq.out
          clear hj
          gi_wp2
          gi_roundg (J.length - (k + 1))
          case measure => omega
          case rel => exact ⟨k + 1, q, by go_num, by omega, hqn, hJa.out⟩
      · have hqn : Hid (q = (incL (J.take (k + 1))).length) := by show _ = _; rw [hnx.out, if_neg (fun h => c1 h.1), List.append_nil]; exact hq.out
        clear hj
        gi_wp2
        gi_roundg (J.length - (k + 1))
        case measure => omega
        case rel => exact ⟨k + 1, q, by go_num, by omega, hqn, hJa.out⟩
    · have hfin := hide (show j0 (incL J).length wr by have := hJk.out; rw [hq.out, List.take_of_length_le (by omega)] at this; exact this)
      gi_wp2
      go_end0
      exact ⟨⟨_, rfl⟩, .inl hfin.out⟩
end Go.Proofs.YtljkneajdndgjaaGreat
set_option linter.unusedVariables false
set_option linter.unusedSimpArgs false
namespace Go.Proofs.YtljkneajdndgjaaGreat
open Go.RowKit
theorem itake_put (cur : Array Value) (xs : List Value) (h : xs.length ≤ cur.size) : (Go.Sort.putCells id 0 xs.toArray cur).toList.take xs.length = xs := by
  apply List.ext_getElem?
  intro i
  by_cases hi : i < xs.length
  · rw [List.getElem?_take_of_lt hi, Array.getElem?_toList]
    simp [Go.Sort.putCells, hi, show i < cur.size by omega]
  · rw [List.getElem?_eq_none (by rw [List.length_take]; omega), List.getElem?_eq_none (by omega)]
theorem iheap_put {w : World} {g n : Nat} {os : Array Obj} {cur : Array Value} {e : TypeId} {fr : Nat × Nat} (d : Array Value) (hb : w.heap[g]? = some (.cells cur e fr)) :
    (Go.Sort.grow (Go.Sort.putRow id (Go.Sort.ahead w n) g 0 d) os).heap[g]? = some (.cells (Go.Sort.putCells id 0 d cur) e fr) := by
  have hg : g < w.heap.size := (Array.getElem?_eq_some_iff.1 hb).1
  rw [Go.Sort.heap_grow_old _ _ (by simpa using hg)]
  simp [Go.Sort.putRow, Go.Sort.mapBlock, Go.Sort.ahead, Array.getElem?_modify, hb, Go.Sort.onCells]
theorem igrown_put {w : World} {g n : Nat} {os : Array Obj} (d : Array Value) : w.grownBy (Go.Sort.grow (Go.Sort.putRow id (Go.Sort.ahead w n) g 0 d) os) (some g) := by
  refine ⟨rfl, rfl, rfl, by simp, fun k hk hne => ?_⟩
  rw [Go.Sort.heap_grow_old _ _ (by simpa using hk)]
  have : g ≠ k := fun e => hne (by rw [e])
  simp [Go.Sort.putRow, Go.Sort.mapBlock, Go.Sort.ahead, Array.getElem?_modify, this]
theorem iput_map {α : Type} [Inhabited α] (enc : α → Value) (d : Array α) (c : Array Value) : Go.Sort.putCells enc 0 d c = Go.Sort.putCells id 0 (d.map enc) c := by
  unfold Go.Sort.putCells
  congr 1
  funext k x
  by_cases hk : k < d.size
  · rw [if_pos (by omega), if_pos (by simpa using hk)]
    simp [getElem!_pos d k hk, hk]
  · rw [if_neg (by omega), if_neg (by simpa using hk)]
theorem irow_map {α : Type} [Inhabited α] (enc : α → Value) (w : World) (g : Nat) (d : Array α) : Go.Sort.putRow enc w g 0 d = Go.Sort.putRow id w g 0 (d.map enc) := by
  unfold Go.Sort.putRow
  congr 1
  funext c
  exact iput_map enc d c
/-- Numbers in their order. -/
def srt (D : List Int) : List Int := D.mergeSort fun x y => decide (x ≤ y)
theorem srt_perm (D : List Int) : (srt D).Perm D := List.mergeSort_perm _ _
theorem srt_asc (D : List Int) : (srt D).Pairwise (· ≤ ·) := by
  have := List.pairwise_mergeSort (le := fun x y : Int => decide (x ≤ y)) (fun a b c h1 h2 => by simp at *; omega) (fun a b => by simp; omega) D
  exact this.imp fun h => by simpa using h
theorem srt_len (D : List Int) : (srt D).length = D.length := (srt_perm D).length_eq
theorem srt_mem (D : List Int) (x : Int) : x ∈ srt D ↔ x ∈ D := (srt_perm D).mem_iff
theorem srt_lt {D : List Int} (h : D.Nodup) : (srt D).Pairwise (· < ·) := by
  have h1 := srt_asc D
  have h2 : (srt D).Nodup := (srt_perm D).nodup_iff.2 h
  exact (h1.and h2).imp fun ⟨a, b⟩ => by omega
set_option maxHeartbeats 2000000 in
/-- Sorted in place. -/
theorem isort_c (B : Nat) (D : List Int) (v : Value) (w : World) (h : OwnZ w B v D) (hn : D.length ≤ 1000000000) : Calls Tryz.prog 110 #[v] w fun e w' => e = .returned (.tuple #[]) ∧ OwnZ w' B v (srt D) ∧ Fr (ob v) w w' := by
  have hl := srt_len D
  rcases h.2 with ⟨rfl, h0⟩ | ⟨g, cap, cur, rfl, hb, hg, hnc, hcm, hcs, ht⟩
  · obtain rfl : D = [] := List.eq_nil_of_length_eq_zero (by simpa using h0)
    refine (Tryz.slices_Sort_int_none none 0 w).mono ?_
    rintro e w' ⟨rfl, rfl⟩
    exact ⟨rfl, by rw [show srt [] = [] by simp [srt]]; exact h, Fr.refl _ _⟩
  · have hH : Go.Sort.Holds (Value.int .i64) w g 0 D.toArray := by
      intro j hj
      have hj' : j < D.length := by simpa using hj
      have h1 := World.ownsRow.cellAt h j (by omega)
      have h2 := World.ownsRow.frozenAt h j
      rw [Nat.zero_add]
      refine ⟨?_, h2⟩
      rw [h1, getElem!_pos D.toArray j hj]
      simp [zc, hj']
    refine (Tryz.slices_Sort_int g 0 cap D w hH (lt_of_block hg) (by omega)).mono ?_
    rintro e w' ⟨rfl, n, os, rfl⟩
    refine ⟨rfl, ?_, (Fr.refl _ _).grown (by rw [irow_map]; exact igrown_put _) (fun k hk => by cases hk; exact .inl (by simp [ob, Value.ownBlock]))⟩
    have hmap : ((D.mergeSort fun x y => decide (x ≤ y)).toArray.map (Value.int .i64)) = (zc (srt D)).toArray := by simp [zc, srt]
    have hzl : (zc (srt D)).length = D.length := by rw [zc_len, hl]
    refine ⟨by rw [zc_len, Nat.mul_one], .inr ⟨g, cap, Go.Sort.putCells id 0 (zc (srt D)).toArray cur, by rw [hl], hb, ?_, by rw [hl]; exact hnc, hcm, by simp [Go.Sort.putCells, hcs], ?_⟩⟩
    · rw [irow_map, hmap]
      exact iheap_put _ hg
    · have := itake_put cur (zc (srt D)) (by rw [hzl, hcs]; omega)
      rwa [hzl, ← hl, ← Nat.mul_one (List.length _)] at this
end Go.Proofs.YtljkneajdndgjaaGreat
set_option linter.unusedVariables false
set_option linter.unusedSimpArgs false
namespace Go.Proofs.YtljkneajdndgjaaGreat
open Go.RowKit
theorem comp_asc {D : List Int} (hD : D.Pairwise (· ≤ ·)) : ∀ m, m ≤ D.length → (Go.Lib.compactUpTo D.toArray m).Pairwise (· < ·) ∧ ∀ x, x ∈ Go.Lib.compactUpTo D.toArray m ↔ x ∈ D.take m
  | 0, _ => by simp [Go.Lib.compactUpTo]
  | m + 1, hm => by
    obtain ⟨i1, i2⟩ := comp_asc hD m (by omega)
    have hml : m < D.length := by omega
    have hd : D.toArray[m]! = D[m] := by rw [getElem!_pos D.toArray m (by simpa using hml)]; simp
    have ht : D.take (m + 1) = D.take m ++ [D[m]] := by rw [List.take_add_one, List.getElem?_eq_getElem hml]; rfl
    rw [Go.Lib.compactUpTo_succ, ht]
    by_cases hk : Go.Lib.keeps D.toArray m = true
    · rw [if_pos hk, hd]
      refine ⟨?_, fun x => by rw [List.mem_append, List.mem_append, i2]⟩
      rw [List.pairwise_append]
      refine ⟨i1, by simp, fun x hx y hy => ?_⟩
      rw [List.mem_singleton] at hy
      subst hy
      rw [i2] at hx
      obtain ⟨i, hi⟩ := List.getElem?_of_mem hx
      rw [List.getElem?_take] at hi
      split at hi
      case isFalse => cases hi
      rename_i him
      have hil : i < D.length := by omega
      rw [List.getElem?_eq_getElem hil] at hi
      obtain rfl := Option.some.inj hi
      have h0 : m - 1 < D.length := by omega
      have hd2 : D.toArray[m - 1]! = D[m - 1] := by rw [getElem!_pos D.toArray (m - 1) (by simpa using h0)]; simp
      unfold Go.Lib.keeps at hk
      rw [decide_eq_true_iff, hd, hd2] at hk
      have hP := List.pairwise_iff_getElem.1 hD
      have e1 : D[i] ≤ D[m - 1] := by
        rcases Nat.eq_or_lt_of_le (show i ≤ m - 1 by omega) with h | h
        · subst h; exact Int.le_refl _
        · exact hP i (m - 1) hil h0 h
      have e2 := hP (m - 1) m h0 hml (by omega)
      rcases hk with hk | hk
      · omega
      · omega
    · have hk2 : Go.Lib.keeps D.toArray m = false := by simpa using hk
      rw [if_neg (by rw [hk2]; decide), List.append_nil]
      refine ⟨i1, fun x => ?_⟩
      rw [i2, List.mem_append, List.mem_singleton]
      have h0 : m - 1 < D.length := by omega
      have hd2 : D.toArray[m - 1]! = D[m - 1] := by rw [getElem!_pos D.toArray (m - 1) (by simpa using h0)]; simp
      unfold Go.Lib.keeps at hk
      rw [decide_eq_true_iff, hd, hd2] at hk
      have hm0 : m ≠ 0 := fun h => hk (.inl h)
      have heq : D[m] = D[m - 1] := Classical.byContradiction fun h => hk (.inr h)
      refine ⟨.inl, fun h => h.elim id fun h => ?_⟩
      rw [h, heq]
      exact List.mem_of_getElem? (i := m - 1) (by rw [List.getElem?_take, if_pos (by omega), List.getElem?_eq_getElem h0])
/-- Sorted numbers, each once. -/
theorem compact_asc {D : List Int} (hD : D.Pairwise (· ≤ ·)) : (Go.Lib.compact D).Pairwise (· < ·) ∧ ∀ x, x ∈ Go.Lib.compact D ↔ x ∈ D := by
  obtain ⟨h1, h2⟩ := comp_asc hD D.length (Nat.le_refl _)
  exact ⟨h1, fun x => by rw [show Go.Lib.compact D = Go.Lib.compactUpTo D.toArray D.length from rfl, h2, List.take_length]⟩
theorem cheap_put {w : World} {g n : Nat} {cur : Array Value} {e : TypeId} {fr : Nat × Nat} (d : Array Value) (hb : w.heap[g]? = some (.cells cur e fr)) :
    (Go.Sort.putRow id (Go.Sort.ahead w n) g 0 d).heap[g]? = some (.cells (Go.Sort.putCells id 0 d cur) e fr) := by
  have hg : g < w.heap.size := (Array.getElem?_eq_some_iff.1 hb).1
  simp [Go.Sort.putRow, Go.Sort.mapBlock, Go.Sort.ahead, Array.getElem?_modify, hb, Go.Sort.onCells]
theorem cgrown_put {w : World} {g n : Nat} (d : Array Value) : w.grownBy (Go.Sort.putRow id (Go.Sort.ahead w n) g 0 d) (some g) := by
  refine ⟨rfl, rfl, rfl, by simp, fun k hk hne => ?_⟩
  have : g ≠ k := fun e => hne (by rw [e])
  simp [Go.Sort.putRow, Go.Sort.mapBlock, Go.Sort.ahead, Array.getElem?_modify, this]
set_option maxHeartbeats 2000000 in
theorem icompact_c (B : Nat) (D : List Int) (v : Value) (w : World) (h : OwnZ w B v D) (hn : D.length ≤ 1000000000) : Calls Tryz.prog 172 #[v] w fun e w' => ∃ v', e = .returned v' ∧ OwnZ w' B v' (Go.Lib.compact D) ∧ Fr (ob v) w w' := by
  have hl := Go.Lib.compact_length_le D
  rcases h.2 with ⟨rfl, h0⟩ | ⟨g, cap, cur, rfl, hb, hg, hnc, hcm, hcs, ht⟩
  · obtain rfl : D = [] := List.eq_nil_of_length_eq_zero (by simpa using h0)
    refine (Tryz.slices_Compact_int_empty none 0 w).mono ?_
    rintro e w' ⟨rfl, rfl⟩
    exact ⟨_, rfl, by rw [show Go.Lib.compact ([] : List Int) = [] by rfl]; exact h, Fr.refl _ _⟩
  · have hH : Go.Sort.Holds (Value.int .i64) w g 0 D.toArray := by
      intro j hj
      have hj' : j < D.length := by simpa using hj
      have h1 := World.ownsRow.cellAt h j (by omega)
      have h2 := World.ownsRow.frozenAt h j
      rw [Nat.zero_add]
      refine ⟨?_, h2⟩
      rw [h1, getElem!_pos D.toArray j hj]
      simp [zc, hj']
    refine (Tryz.slices_Compact_int g 0 cap D w hH (by omega) hnc).mono ?_
    rintro e w' ⟨rfl, n, rfl⟩
    refine ⟨_, rfl, ?_, (Fr.refl _ _).grown (by rw [irow_map]; exact cgrown_put _) (fun k hk => by cases hk; exact .inl (by simp [ob, Value.ownBlock]))⟩
    obtain ⟨Y, hY⟩ : ∃ Y, Y = Go.Lib.compact D := ⟨_, rfl⟩
    rw [← hY] at hl ⊢
    have hzl : (zc Y).length = Y.length := zc_len Y
    refine ⟨by rw [zc_len, Nat.mul_one], .inr ⟨g, cap, Go.Sort.putCells id 0 (zc (Y ++ List.replicate (D.length - Y.length) 0)).toArray cur, rfl, hb, ?_, by omega, hcm, by simp [Go.Sort.putCells, hcs], ?_⟩⟩
    · have hmap : ((Y ++ List.replicate (D.length - Y.length) 0).toArray.map (Value.int .i64)) = (zc (Y ++ List.replicate (D.length - Y.length) 0)).toArray := by simp [zc]
      rw [irow_map, hmap]
      exact cheap_put _ hg
    · have hZl : (zc (Y ++ List.replicate (D.length - Y.length) 0)).length = D.length := by rw [zc_len, List.length_append, List.length_replicate]; omega
      have h1 := itake_put cur (zc (Y ++ List.replicate (D.length - Y.length) 0)) (by rw [hZl, hcs]; omega)
      obtain ⟨X, hX⟩ : ∃ X, X = (Go.Sort.putCells id 0 (zc (Y ++ List.replicate (D.length - Y.length) 0)).toArray cur).toList := ⟨_, rfl⟩
      rw [← hX] at h1 ⊢
      have e : X.take Y.length = (X.take (zc (Y ++ List.replicate (D.length - Y.length) 0)).length).take Y.length := by rw [List.take_take, Nat.min_eq_left (by omega)]
      rw [Nat.mul_one, e, h1, zc_append, List.take_append_of_le_length (by omega), List.take_of_length_le (by omega)]
end Go.Proofs.YtljkneajdndgjaaGreat
set_option linter.unusedVariables false
set_option linter.unusedSimpArgs false
namespace Go.Proofs.YtljkneajdndgjaaGreat
open Go.RowKit
attribute [local go_sem] GW.cell GW.frozen In.eq_true In.le_true In.ne In.ne' In.ne_add In.ne_add' In.lt_add Upto.le_true Upto.le_add Upto.lt_add


def flQ (a b : Int) : Int := if b < 1 then 0 else a / b
def flR (a b : Int) : Int := if b < 1 then 0 else a % b
def flE (b : Int) : Int := if b < 1 then 2 else 0

theorem tdiv_abs (a b : Int) : (a.tdiv b).natAbs ≤ a.natAbs := by
  rw [Int.natAbs_tdiv]; exact Nat.div_le_self _ _
theorem tdiv_in {a b : Int} (ha : -9223372036854775808 ≤ a ∧ a ≤ 9223372036854775807) (h : ¬ (a = -9223372036854775808 ∧ b = -1)) : -9223372036854775808 ≤ a.tdiv b ∧ a.tdiv b ≤ 9223372036854775807 := by
  have h1 := tdiv_abs a b
  by_cases hb : b = 0
  · subst hb; simp
  by_cases e : a.tdiv b = 9223372036854775808
  · exfalso
    have ha' : a.natAbs = 9223372036854775808 := by rw [e] at h1; omega
    have ha2 : a = -9223372036854775808 := by omega
    have h2 : (a.tdiv b).natAbs = a.natAbs / b.natAbs := Int.natAbs_tdiv a b
    rw [e, ha'] at h2
    have h3 : b.natAbs = 1 := by
      rcases Nat.lt_or_ge 1 b.natAbs with h | h
      · have := Nat.div_lt_self (n := 9223372036854775808) (by omega) h; omega
      · omega
    have : b = 1 ∨ b = -1 := by omega
    rcases this with rfl | rfl
    · rw [ha2] at e; simp at e
    · exact h ⟨ha2, rfl⟩
  · omega
theorem tmod_abs {a b : Int} (ha : -9223372036854775808 ≤ a ∧ a ≤ 9223372036854775807) : -9223372036854775808 ≤ a.tmod b ∧ a.tmod b ≤ 9223372036854775807 := by
  have h1 : (a.tmod b).natAbs = a.natAbs % b.natAbs := Int.natAbs_tmod a b
  have h2 := Nat.mod_le a.natAbs b.natAbs
  have h3 : 0 ≤ a → 0 ≤ a.tmod b := fun h => Int.tmod_nonneg b h
  have h4 : a ≤ 0 → a.tmod b ≤ 0 := fun h => by
    have := Int.tmod_nonneg b (a := -a) (by omega)
    rw [Int.neg_tmod] at this; omega
  rcases Int.le_total 0 a with h | h
  · have := h3 h; omega
  · have := h4 h; omega
/-- From the quotient that is cut to the one that is not above. -/
theorem floor_neg {a b : Int} (hb : 1 ≤ b) (h : a.tmod b < 0) : a.tdiv b - 1 = a / b ∧ a.tmod b + b = a % b := by
  have h1 := Int.mul_tdiv_add_tmod a b
  have h2 : (a.tmod b).natAbs < b.natAbs := by rw [Int.natAbs_tmod]; exact Nat.mod_lt _ (by omega)
  have e : a = b * (a.tdiv b - 1) + (a.tmod b + b) := by rw [Int.mul_sub]; omega
  have h3 : a % b = a.tmod b + b := by
    conv => lhs; rw [e]
    rw [Int.add_comm, Int.add_mul_emod_self_left]; exact Int.emod_eq_of_lt (by omega) (by omega)
  have h4 := Int.mul_ediv_add_emod a b
  refine ⟨?_, h3.symm⟩
  rw [h3] at h4
  have : b * (a / b) = b * (a.tdiv b - 1) := by omega
  exact (Int.eq_of_mul_eq_mul_left (by omega) this).symm
theorem floor_pos {a b : Int} (hb : 1 ≤ b) (h : 0 ≤ a.tmod b) : a.tdiv b = a / b ∧ a.tmod b = a % b := by
  have h1 := Int.mul_tdiv_add_tmod a b
  have h2 : (a.tmod b).natAbs < b.natAbs := by rw [Int.natAbs_tmod]; exact Nat.mod_lt _ (by omega)
  have h3 : a % b = a.tmod b := by
    conv => lhs; rw [← h1]
    rw [Int.add_comm, Int.add_mul_emod_self_left]; exact Int.emod_eq_of_lt (by omega) (by omega)
  have h4 := Int.mul_ediv_add_emod a b
  refine ⟨?_, h3.symm⟩
  rw [h3] at h4
  have : b * (a / b) = b * a.tdiv b := by omega
  exact (Int.eq_of_mul_eq_mul_left (by omega) this).symm











end Go.Proofs.YtljkneajdndgjaaGreat
set_option linter.unusedVariables false
set_option linter.unusedSimpArgs false
namespace Go.Proofs.YtljkneajdndgjaaGreat
open Go.RowKit
attribute [local go_sem] GW.cell GW.frozen In.eq_true In.le_true In.ne In.ne' In.ne_add In.ne_add' In.lt_add Upto.le_true Upto.le_add Upto.lt_add
set_option maxHeartbeats 2000000 in
theorem floor_c (a b : Int) (ha : -9223372036854775808 ≤ a ∧ a ≤ 9223372036854775807) (hb : -9223372036854775808 ≤ b ∧ b ≤ 9223372036854775807) (w : World) : Calls Tryz.prog 135 #[.int .i64 a, .int .i64 b] w fun e w' => e = .returned (.tuple #[.int .i64 (flQ a b), .int .i64 (flR a b), .int .i64 (flE b)]) ∧ Ext w w' := by
  by_cases h : b < 1
  · clear ha hb
    go_enter Tryz.func135, Tryz.ntmps135
    go_wp2_with fail
    all_goals
      go_returns
      refine ⟨by first | rfl | (simp [flQ, flR, flE, *]; done) | (simp [flQ, flR, flE, *]; omega), ?_⟩
      repeat (first | exact Ext.refl _ | with_reducible assumption | refine Ext.alloc ?_ _ | refine Ext.drew ?_ | refine Ext.drewN ?_ _ | refine ext_gw ?_ _ | refine Ext.setCell ?_ (by first | (simp; done) | (simp [Upto.le_true, Upto.le_add]; done) | (simp; omega)) _)
  have h1 : 1 ≤ b := by omega
  have hi := tdiv_in (b := b) ha (by omega)
  have hj := tmod_abs (b := b) ha
  have hlt : (a.tmod b).natAbs < b.natAbs := by rw [Int.natAbs_tmod]; exact Nat.mod_lt _ (by omega)
  have hz : a.tdiv b = -9223372036854775808 → a.tmod b < 0 → False := fun h2 h3 => by
    have h4 := Int.mul_tdiv_add_tmod a b
    rw [h2] at h4
    omega
  have core : ∀ q r, IntKind.i64.wrap (a.tdiv b) = q → a.tmod b = r → (r < 0 → q - 1 = a / b ∧ r + b = a % b ∧ -9223372036854775807 ≤ q) → (0 ≤ r → q = a / b ∧ r = a % b) → -9223372036854775808 ≤ r ∧ r ≤ 9223372036854775807 → -9223372036854775808 ≤ q ∧ q ≤ 9223372036854775807 →
      Calls Tryz.prog 135 #[.int .i64 a, .int .i64 b] w fun e w' => e = .returned (.tuple #[.int .i64 (flQ a b), .int .i64 (flR a b), .int .i64 (flE b)]) ∧ Ext w w' := by
    intro q r hq hr n p ir iq
    have e0 : (b == 0) = false := by simp; omega
    have k0 : ¬ b = 0 := by omega
    obtain ⟨ir1, ir2⟩ := ir
    obtain ⟨iq1, iq2⟩ := iq
    obtain ⟨ib1, ib2⟩ := hb
    clear ha hi hj hlt hz
    by_cases hr0 : r < 0
    · obtain ⟨n1, n2, n3⟩ := n hr0
      have hv := hide (show (flQ a b = q - 1 ∧ flR a b = r + b) from ⟨by rw [flQ, if_neg h, n1], by rw [flR, if_neg h, n2]⟩)
      clear n p n1 n2
      go_enter Tryz.func135, Tryz.ntmps135
      go_wp2_with fail
      refine wp_region_gw (by kernel_rfl) (by kernel_rfl) ?_
      repeat (go_big_quiet_step (fail))
      refine wpQuiet_nil ?_
      intro g
      go_wp2_with fail
      all_goals
        go_returns
        refine ⟨by rw [hv.out.1, hv.out.2]; first | rfl | (simp [flQ, flR, flE, *]; done) | (simp [flQ, flR, flE, *]; omega), ?_⟩
        repeat (first | exact Ext.refl _ | with_reducible assumption | refine Ext.alloc ?_ _ | refine Ext.drew ?_ | refine Ext.drewN ?_ _ | refine ext_gw ?_ _ | refine Ext.setCell ?_ (by first | (simp; done) | (simp [Upto.le_true, Upto.le_add]; done) | (simp; omega)) _)
    · obtain ⟨n1, n2⟩ := p (by omega)
      have hv := hide (show (flQ a b = q ∧ flR a b = r) from ⟨by rw [flQ, if_neg h, n1], by rw [flR, if_neg h, n2]⟩)
      clear n p n1 n2
      go_enter Tryz.func135, Tryz.ntmps135
      go_wp2_with fail
      refine wp_region_gw (by kernel_rfl) (by kernel_rfl) ?_
      repeat (go_big_quiet_step (fail))
      refine wpQuiet_nil ?_
      intro g
      go_wp2_with fail
      all_goals
        go_returns
        refine ⟨by rw [hv.out.1, hv.out.2]; first | rfl | (simp [flQ, flR, flE, *]; done) | (simp [flQ, flR, flE, *]; omega), ?_⟩
        repeat (first | exact Ext.refl _ | with_reducible assumption | refine Ext.alloc ?_ _ | refine Ext.drew ?_ | refine Ext.drewN ?_ _ | refine ext_gw ?_ _ | refine Ext.setCell ?_ (by first | (simp; done) | (simp [Upto.le_true, Upto.le_add]; done) | (simp; omega)) _)
  have ei := IntWalk.i64_in _ hi
  refine core _ _ ei rfl ?_ ?_ hj hi
  · intro h2
    have h4 := floor_neg h1 h2
    have h5 : a.tdiv b ≠ -9223372036854775808 := fun e => hz e h2
    exact ⟨h4.1, h4.2, by omega⟩
  · exact fun h2 => floor_pos h1 h2
end Go.Proofs.YtljkneajdndgjaaGreat
