/-
  Layer 1 (num), 1.2: the document's own sum. Our own work.
-/
import Derived.Test.YtjkkolhboohmgaaDoorNumV
import Derived.Deep.AppendSrc
set_option linter.unusedVariables false
set_option linter.unusedSimpArgs false
namespace Go.Proofs.YtjkkolhboohmgaaDoor
open Go.RowKit
attribute [local go_sem] GW.cell GW.frozen In.eq_true In.le_true In.ne In.ne' In.ne_add In.ne_add' In.lt_add Upto.le_true Upto.le_add Upto.lt_add
attribute [-go_sem] sliced
attribute [local go_sem] sliced_eq
theorem tInts : ElemT Tryd.prog 22 3 (.int .i64 0) 1 8 := ElemT.mk' Tryd.underlying22 (by kernel_rfl) rfl (by omega)
theorem nums_app (l m : List Int) : nums (l ++ m) = nums l ++ nums m := by unfold nums; rw [List.map_append]
theorem nums_len (l : List Int) : (nums l).length = l.length := by unfold nums; rw [List.length_map]
theorem nums_one (l : List Int) : ∀ u ∈ nums l, u.oneCell' = true := by
  intro u hu; unfold nums at hu; obtain ⟨x, _, rfl⟩ := List.mem_map.1 hu; rfl
def ups (l : List Int) : List Int := l.filter fun x => decide (0 ≤ x)
def downs (l : List Int) : List Int := l.filter fun x => decide (x < 0)
theorem parts_sum (l : List Int) : isum (ups l) + isum (downs l) = isum l := by
  induction l with
  | nil => rfl
  | cons x r ih =>
    unfold ups downs at ih ⊢
    by_cases h : x < 0
    · rw [List.filter_cons_of_neg (by simpa using h), List.filter_cons_of_pos (by simpa using h), isum_cons, isum_cons]; omega
    · rw [List.filter_cons_of_pos (by simpa using h), List.filter_cons_of_neg (by simpa using h), isum_cons, isum_cons]; omega
theorem ups_take {l : List Int} {k : Nat} {x : Int} (h : l[k]? = some x) : ups (l.take (k + 1)) = if x < 0 then ups (l.take k) else ups (l.take k) ++ [x] := by
  unfold ups
  rw [List.take_add_one, h, List.filter_append]
  by_cases h0 : x < 0
  · rw [if_pos h0]; simp; omega
  · rw [if_neg h0]; simp; omega
theorem downs_take {l : List Int} {k : Nat} {x : Int} (h : l[k]? = some x) : downs (l.take (k + 1)) = if x < 0 then downs (l.take k) ++ [x] else downs (l.take k) := by
  unfold downs
  rw [List.take_add_one, h, List.filter_append]
  by_cases h0 : x < 0
  · rw [if_pos h0]; simp; omega
  · rw [if_neg h0]; simp; omega
theorem ups_le (l : List Int) (k : Nat) : (ups (l.take k)).length ≤ k := by
  unfold ups; have := List.length_filter_le (fun x => decide (0 ≤ x)) (l.take k); rw [List.length_take] at this; omega
theorem downs_le (l : List Int) (k : Nat) : (downs (l.take k)).length ≤ k := by
  unfold downs; have := List.length_filter_le (fun x => decide (x < 0)) (l.take k); rw [List.length_take] at this; omega
theorem sum_up {l : List Int} (h : ∀ x ∈ l, 0 ≤ x) : 0 ≤ isum l := by
  induction l with
  | nil => rw [isum_nil]; omega
  | cons x r ih => rw [isum_cons]; have := h x (by simp); have := ih fun y hy => h y (by simp [hy]); omega
theorem sum_down {l : List Int} (h : ∀ x ∈ l, x ≤ 0) : isum l ≤ 0 := by
  induction l with
  | nil => rw [isum_nil]; omega
  | cons x r ih => rw [isum_cons]; have := h x (by simp); have := ih fun y hy => h y (by simp [hy]); omega
def slen : Value → Nat
  | .slice _ n _ => n
  | _ => 0
theorem cut_one {w : World} {A : Option Addr} {cap : Nat} {x : Int} {p : List Int} (h : Sl w [] 1 (.slice A (p.length + 1) cap) (x :: p).length (nums (x :: p))) :
    Sl w [] 1 (.slice (cutA A 1 cap 1) p.length (cap - 1)) p.length (nums p) := by
  obtain ⟨_, c, e, h1, h2, h3, h4⟩ := id h
  simp only [Value.slice.injEq, true_and] at e
  obtain ⟨rfl, -, rfl⟩ := e
  have hc := h.cut 1 (p.length + 1) cap (by omega) (by simp) (by simpa using h1) (Nat.le_refl _)
  rw [sliced_eq, Nat.mul_one, Nat.mul_one, List.take_of_length_le (by simp [nums])] at hc
  exact hc
theorem first_cell {w : World} {A : Option Addr} {cap n : Nat} {x : Int} {p : List Int} (h : Sl w [] 1 (.slice A n cap) (x :: p).length (nums (x :: p))) :
    ∃ b o, A = some ⟨b, o, none⟩ ∧ w.cell? ⟨b, o, none⟩ = some (.int .i64 x) ∧ n = p.length + 1 := by
  obtain ⟨_, c, e, h1, h2, h3, h4⟩ := h
  simp only [Value.slice.injEq] at e
  obtain ⟨rfl, rfl, rfl⟩ := e
  rcases h4 with h4 | ⟨b, o, rfl, _, hc⟩
  · simp [nums] at h4
  · exact ⟨b, o, rfl, by simpa using hc 0 (.int .i64 x) rfl, rfl⟩
set_option maxHeartbeats 8000000 in
theorem refSum_c (l : List Int) (hl : InL l) (hz : l.length ≤ 17592186043904) (v : Value) (w : World) (hS : Sl w [] 1 v l.length (nums l)) : Calls Tryd.prog 7 #[v] w fun e w' => e = .returned (.tuple #[.int .i64 (sumV l), .int .i64 (sumE l)]) ∧ Ext w w' := by
  obtain ⟨A, cap, rfl, hn, hcap, hlen, hcells⟩ := hS
  replace hcells := hide hcells
  replace hl := hide hl
  clear hlen
  go_enter Tryd.func7, Tryd.ntmps7
  go_wp2_with fail
  have hX0 : Ext w ((w.alloc (Obj.cells #[] 3)).alloc (Obj.cells #[] 3)) := ((Ext.refl w).alloc _).alloc _
  have ho1 : ((w.alloc (Obj.cells #[] 3)).alloc (Obj.cells #[] 3)).ownsRow w.heap.size 3 1 (.slice (some ⟨w.heap.size, 0, none⟩) 0 0) 0 [] := (World.ownsRow_made w #[] 0 (Nat.le_refl _) (Nat.zero_le _) rfl).alloc _
  have ho2 : ((w.alloc (Obj.cells #[] 3)).alloc (Obj.cells #[] 3)).ownsRow w.heap.size 3 1 (.slice (some ⟨w.heap.size + 1, 0, none⟩) 0 0) 0 [] := by
    have := World.ownsRow_made (base := w.heap.size) (e := 3) (size := 1) (w.alloc (Obj.cells #[] 3)) #[] 0 (by simp) (Nat.zero_le _) rfl
    simpa using this
  go_loopw [4, 5, 6] (fun a b i wr => ∃ (k : Nat), i = .int .i64 k ∧ k ≤ l.length ∧ wr.ownsRow w.heap.size 3 1 a (ups (l.take k)).length (nums (ups (l.take k))) ∧ wr.ownsRow w.heap.size 3 1 b (downs (l.take k)).length (nums (downs (l.take k))) ∧ Hid (a.ownBlock ≠ b.ownBlock) ∧ Ext w wr) (fun _ _ i _ => l.length - (intOf i).toNat)
  case atStart => exact ⟨0, rfl, Nat.zero_le _, ho1, ho2, by simp [Value.ownBlock, Hid], hX0⟩
  case round =>
    obtain ⟨k, rfl, hk, ha, hb, hne, hX⟩ := hrel
    clear ho1 ho2 hX0
    by_cases hlt : k < l.length
    · obtain ⟨x, hx⟩ : ∃ x, l[k]? = some x := ⟨_, List.getElem?_eq_getElem hlt⟩
      have hxb := hl.out x (List.mem_of_getElem? hx)
      rcases hcells.out with h0 | ⟨b0, o0, rfl, -, hc⟩
      · have : l.length = 0 := by have := congrArg List.length h0; simpa [nums] using this
        omega
      have hcx : wr.cell? ⟨b0, o0 + k, none⟩ = some (.int .i64 x) := by
        have h1 := hc k (.int .i64 x) (by simp [nums, hx])
        exact (World.cell?_of_block (a := ⟨b0, o0 + k, none⟩) (hX.block b0 (block_lt_of_cell h1))).trans h1
      have hul := ups_le l k
      have hdl := downs_le l k
      have hut := hide (ups_take hx)
      have hdt := hide (downs_take hx)
      have hsz := hX.size
      clear hc
      by_cases h0 : x < 0
      · have hut := hide (hut.out.trans (if_pos h0))
        have hdt := hide (hdt.out.trans (if_pos h0))
        go_wp2_with (at_builtin; refine wpl_app tInts rfl (.tmp 24) (.tmp 29) rfl rfl (hb.alloc _) rfl (src_one Tryd.underlying22 _ _ _ rfl) (by unfold maxLen; omega) (by omega) (by simp; omega) ?_; intro v' w1 ho hg hd)
        go_roundw
        case rel =>
          refine ⟨k + 1, by go_num, hlt, ?_, ?_, ?_, ext_grown (hX.alloc _) hg fun k hk => (hb.lt k hk).1⟩
          · rw [hut.out]; exact (ha.alloc _).kept hg (.inr hne.out)
          · rw [hdt.out, List.length_append, nums_app]; exact ho
          · refine hide ?_
            rcases hd with h | h
            · rw [h]; exact hne.out
            · rw [h]; intro e; have := ((ha.alloc (Obj.cells #[Value.int IntKind.i64 x] 3)).lt _ e).2; omega
        case measure => simp [intOf]; omega
      · have hut := hide (hut.out.trans (if_neg h0))
        have hdt := hide (hdt.out.trans (if_neg h0))
        go_wp2_with (at_builtin; refine wpl_app tInts rfl (.tmp 31) (.tmp 36) rfl rfl (ha.alloc _) rfl (src_one Tryd.underlying22 _ _ _ rfl) (by unfold maxLen; omega) (by omega) (by simp; omega) ?_; intro v' w1 ho hg hd)
        go_roundw
        case rel =>
          refine ⟨k + 1, by go_num, hlt, ?_, ?_, ?_, ext_grown (hX.alloc _) hg fun k hk => (ha.lt k hk).1⟩
          · rw [hut.out, List.length_append, nums_app]; exact ho
          · rw [hdt.out]; exact (hb.alloc _).kept hg (.inr fun e => hne.out e.symm)
          · refine hide ?_
            rcases hd with h | h
            · rw [h]; exact hne.out
            · rw [h]; intro e; have := ((hb.alloc (Obj.cells #[Value.int IntKind.i64 x] 3)).lt _ e.symm).2; omega
        case measure => simp [intOf]; omega
    · have hkl : k = l.length := by omega
      subst hkl
      rw [List.take_length] at ha hb
      have hU := hide (Sl.own (S := []) ha (by simp))
      have hD := hide (Sl.own (S := []) hb (by simp))
      obtain ⟨A4, c4, rfl⟩ := own_form ha
      obtain ⟨A5, c5, rfl⟩ := own_form hb
      clear ha hb hne hcells hlt
      go_wp2_with fail
      go_loopw [4, 5, 7] (fun a b s wr2 => ∃ (p q : List Int) (S : Int), s = .int .i64 S ∧ Hid (Sl wr2 [] 1 a p.length (nums p)) ∧ Hid (Sl wr2 [] 1 b q.length (nums q)) ∧ Hid ((∀ x ∈ p, 0 ≤ x ∧ x ≤ 9223372036854775807) ∧ (∀ x ∈ q, -9223372036854775808 ≤ x ∧ x < 0) ∧ S + isum p + isum q = isum l) ∧ (-9223372036854775808 ≤ S ∧ S ≤ 9223372036854775807) ∧ Ext w wr2) (fun a b _ _ => slen a + slen b)
      case atStart =>
        refine ⟨ups l, downs l, 0, rfl, hU, hD, ⟨fun x hx => ?_, fun x hx => ?_, by have := parts_sum l; omega⟩, by omega, hX⟩
        · have h1 := List.mem_filter.1 hx
          have h2 := hl.out x h1.1
          have h3 : 0 ≤ x := by simpa using h1.2
          omega
        · have h1 := List.mem_filter.1 hx
          have h2 := hl.out x h1.1
          have h3 : x < 0 := by simpa using h1.2
          omega
      case round =>
        clear hU hD hX
        obtain ⟨p, q, S, rfl, hA, hB, hst, hSI, hX⟩ := hrel
        obtain ⟨A4, c4, rfl, -, hc4, -, -⟩ := id hA.out
        obtain ⟨A5, c5, rfl, -, hc5, -, -⟩ := id hB.out
        have hn4 : p.length ≤ c4 := by obtain ⟨_, _, e, h1, _⟩ := hA.out; simp only [Value.slice.injEq, true_and] at e; omega
        have hn5 : q.length ≤ c5 := by obtain ⟨_, _, e, h1, _⟩ := hB.out; simp only [Value.slice.injEq, true_and] at e; omega
        have hpq := hst.out
        unfold maxLen at hc4 hc5
        rcases p with _ | ⟨x, p⟩
        · rcases q with _ | ⟨y, q⟩
          · obtain ⟨-, -, h3⟩ := hpq
            rw [isum_nil] at h3
            have hr : isum l = S := by omega
            have f1 := hide (show sumV l = S by unfold sumV; rw [hr, inR_yes hSI]; rfl)
            have f2 := hide (show sumE l = 0 by unfold sumE; rw [hr, inR_yes hSI]; rfl)
            clear hst h3 hr hA hB hn4 hn5
            go_wp2_with fail
            go_returns
            exact ⟨by rw [f1.out, f2.out]; rfl, hX⟩
          · obtain ⟨hp, hq, h3⟩ := hpq
            have hxI := hq y (by simp)
            have hxI : -9223372036854775808 ≤ y ∧ y ≤ 9223372036854775807 := by omega
            have hqs : isum q ≤ 0 := sum_down fun z hz => by have := hq z (by simp [hz]); omega
            rw [isum_nil, isum_cons] at h3
            have hnew := hide (show (∀ x ∈ ([] : List Int), 0 ≤ x ∧ x ≤ 9223372036854775807) ∧ (∀ x ∈ q, -9223372036854775808 ≤ x ∧ x < 0) ∧ (S + y) + isum [] + isum q = isum l from ⟨hp, fun z hz => hq z (by simp [hz]), by rw [isum_nil]; omega⟩)
            have hy0 : y < 0 := (hq y (by simp)).2
            have e0 : ((q.length : Int) + 1 == 0) = false := by rw [beq_eq_false_iff_ne]; omega
            have hlq : (1 : Int) ≤ (c5 : Int) := by simp at hn5; omega
            have hlq2 : (q.length : Int) + 1 ≤ (c5 : Int) := by simp at hn5; omega
            have hpq := hq
            obtain ⟨b0, o0, rfl, hcx, -⟩ := first_cell hB.out
            have hcut := hide (cut_one hB.out)
            have hoth := hA
            by_cases m' : -9223372036854775808 ≤ S + y ∧ S + y ≤ 9223372036854775807
            · clear hp hq h3 hqs hy0
              have m := hide (inR_yes m')
              clear hpq hst
              go_wp2_with (go_at_call 15; (first | (with_reducible refine seq_gw' (refAdd_c _ _ hSI hxI _) ?_) | (with_reducible refine seq_gw (refAdd_c _ _ hSI hxI _) ?_)); intro g; rw [m.out])
              all_goals
                go_roundw
                case rel => exact ⟨[], q, S + y, rfl, hide (Sl.ext hoth.out g.grown), hide (Sl.ext hcut.out g.grown), hnew, m', ext_gw hX g⟩
                case measure => simp [slen]
            · have hm : S + y < -9223372036854775808 := by omega
              have hsum : isum l < -9223372036854775808 := by omega
              clear hp hq h3 hqs hy0
              have m := hide (inR_no m')
              have hr : ¬ (-9223372036854775808 ≤ isum l ∧ isum l ≤ 9223372036854775807) := by omega
              have f1 := hide (show sumV l = 0 by unfold sumV; rw [inR_no hr]; rfl)
              have f2 := hide (show sumE l = 10 by unfold sumE; rw [inR_no hr]; rfl)
              clear hpq hst hr hnew
              go_wp2_with (go_at_call 15; (first | (with_reducible refine seq_gw' (refAdd_c _ _ hSI hxI _) ?_) | (with_reducible refine seq_gw (refAdd_c _ _ hSI hxI _) ?_)); intro g; rw [m.out])
              all_goals
                go_returns
                exact ⟨by rw [f1.out, f2.out]; rfl, ext_gw hX g⟩
        · rcases q with _ | ⟨y, q⟩
          · obtain ⟨hp, hq, h3⟩ := hpq
            have hxI := hp x (by simp)
            have hxI : -9223372036854775808 ≤ x ∧ x ≤ 9223372036854775807 := by omega
            have hqs : 0 ≤ isum p := sum_up fun z hz => by have := hp z (by simp [hz]); omega
            rw [isum_nil, isum_cons] at h3
            have hnew := hide (show (∀ x ∈ p, 0 ≤ x ∧ x ≤ 9223372036854775807) ∧ (∀ x ∈ ([] : List Int), -9223372036854775808 ≤ x ∧ x < 0) ∧ (S + x) + isum p + isum [] = isum l from ⟨fun z hz => hp z (by simp [hz]), hq, by rw [isum_nil]; omega⟩)
            have hy0 : 0 ≤ x := (hp x (by simp)).1
            have hlq : (1 : Int) ≤ (c4 : Int) := by simp at hn4; omega
            have hlq2 : (p.length : Int) + 1 ≤ (c4 : Int) := by simp at hn4; omega
            have hpq := hp
            obtain ⟨b0, o0, rfl, hcx, -⟩ := first_cell hA.out
            have hcut := hide (cut_one hA.out)
            have hoth := hB
            by_cases m' : -9223372036854775808 ≤ S + x ∧ S + x ≤ 9223372036854775807
            · clear hp hq h3 hqs hy0
              have m := hide (inR_yes m')
              clear hpq hst
              go_wp2_with (go_at_call 15; (first | (with_reducible refine seq_gw' (refAdd_c _ _ hSI hxI _) ?_) | (with_reducible refine seq_gw (refAdd_c _ _ hSI hxI _) ?_)); intro g; rw [m.out])
              all_goals
                go_roundw
                case rel => exact ⟨p, [], S + x, rfl, hide (Sl.ext hcut.out g.grown), hide (Sl.ext hoth.out g.grown), hnew, m', ext_gw hX g⟩
                case measure => simp [slen]
            · have hm : 9223372036854775807 < S + x := by omega
              have hsum : 9223372036854775807 < isum l := by omega
              clear hp hq h3 hqs hy0
              have m := hide (inR_no m')
              have hr : ¬ (-9223372036854775808 ≤ isum l ∧ isum l ≤ 9223372036854775807) := by omega
              have f1 := hide (show sumV l = 0 by unfold sumV; rw [inR_no hr]; rfl)
              have f2 := hide (show sumE l = 10 by unfold sumE; rw [inR_no hr]; rfl)
              clear hpq hst hr hnew
              go_wp2_with (go_at_call 15; (first | (with_reducible refine seq_gw' (refAdd_c _ _ hSI hxI _) ?_) | (with_reducible refine seq_gw (refAdd_c _ _ hSI hxI _) ?_)); intro g; rw [m.out])
              all_goals
                go_returns
                exact ⟨by rw [f1.out, f2.out]; rfl, ext_gw hX g⟩
          · obtain ⟨hp, hq, h3⟩ := hpq
            have e0 : ((q.length : Int) + 1 == 0) = false := by rw [beq_eq_false_iff_ne]; omega
            have hx0 := hp x (by simp)
            have hy0 := hq y (by simp)
            have hlq : (1 : Int) ≤ (c4 : Int) := by simp at hn4; omega
            have hlq2 : (p.length : Int) + 1 ≤ (c4 : Int) := by simp at hn4; omega
            have hlq5 : (1 : Int) ≤ (c5 : Int) := by simp at hn5; omega
            have hlq6 : (q.length : Int) + 1 ≤ (c5 : Int) := by simp at hn5; omega
            have hpq := hp
            by_cases hS0 : S < 0
            · have hxI : -9223372036854775808 ≤ x ∧ x ≤ 9223372036854775807 := by omega
              have m' : -9223372036854775808 ≤ S + x ∧ S + x ≤ 9223372036854775807 := by omega
              rw [isum_cons] at h3
              have hnew := hide (show (∀ x ∈ p, 0 ≤ x ∧ x ≤ 9223372036854775807) ∧ (∀ x ∈ y :: q, -9223372036854775808 ≤ x ∧ x < 0) ∧ (S + x) + isum p + isum (y :: q) = isum l from ⟨fun z hz => hp z (by simp [hz]), hq, by omega⟩)
              clear hp hq h3 hx0 hy0
              obtain ⟨b0, o0, rfl, hcx, -⟩ := first_cell hA.out
              have hcut := hide (cut_one hA.out)
              have hoth := hB
              have m := hide (inR_yes m')
              clear hpq hst
              go_wp2_with (go_at_call 15; (first | (with_reducible refine seq_gw' (refAdd_c _ _ hSI hxI _) ?_) | (with_reducible refine seq_gw (refAdd_c _ _ hSI hxI _) ?_)); intro g; rw [m.out])
              all_goals
                go_roundw
                case rel => exact ⟨p, y :: q, S + x, rfl, hide (Sl.ext hcut.out g.grown), hide (Sl.ext hoth.out g.grown), hnew, m', ext_gw hX g⟩
                case measure => simp [slen]
            · have hxI : -9223372036854775808 ≤ y ∧ y ≤ 9223372036854775807 := by omega
              have m' : -9223372036854775808 ≤ S + y ∧ S + y ≤ 9223372036854775807 := by omega
              rw [isum_cons y] at h3
              have hnew := hide (show (∀ z ∈ x :: p, 0 ≤ z ∧ z ≤ 9223372036854775807) ∧ (∀ x ∈ q, -9223372036854775808 ≤ x ∧ x < 0) ∧ (S + y) + isum (x :: p) + isum q = isum l from ⟨hp, fun z hz => hq z (by simp [hz]), by omega⟩)
              replace hS0 : 0 ≤ S := by omega
              clear hp hq h3 hx0 hy0
              obtain ⟨b0, o0, rfl, hcx, -⟩ := first_cell hB.out
              have hcut := hide (cut_one hB.out)
              have hoth := hA
              have m := hide (inR_yes m')
              clear hpq hst
              go_wp2_with (go_at_call 15; (first | (with_reducible refine seq_gw' (refAdd_c _ _ hSI hxI _) ?_) | (with_reducible refine seq_gw (refAdd_c _ _ hSI hxI _) ?_)); intro g; rw [m.out])
              all_goals
                go_roundw
                case rel => exact ⟨x :: p, q, S + y, rfl, hide (Sl.ext hoth.out g.grown), hide (Sl.ext hcut.out g.grown), hnew, m', ext_gw hX g⟩
                case measure => simp [slen]
end Go.Proofs.YtjkkolhboohmgaaDoor
