/-
  A helper of ours: no claim of its own. A region that draws its order and whose operations make memory: if each operation, in whatever grown world, leaves a value of which a fact holds that further growth does not end, then behind the region all the facts hold, whatever the order was.
-/
import Derived.Test.YtljkneajdndgjaaGreatStepB
import Derived.Test.YtljkneajdndgjaaGreatMem
import Derived.Orders
set_option linter.unusedVariables false
set_option linter.unusedSimpArgs false
namespace Go.Proofs.YtljkneajdndgjaaGreat
open Go.RowKit
attribute [local go_sem] GW.cell GW.frozen In.eq_true In.le_true In.ne In.ne' In.ne_add In.ne_add' In.lt_add Upto.le_true Upto.le_add Upto.lt_add
theorem jv_small {l : List Jp} (hb : ∀ j ∈ l, -1048576 ≤ j.2 ∧ j.2 ≤ 1048576) (hn : l.length ≤ 4096) (k : Nat) (t : Int) : -4294967296 ≤ jv (l.take k) t ∧ jv (l.take k) t ≤ 4294967296 := by
  have h1 := jv_bound (K := 1048576) (by omega) (fun j hj => hb j (List.mem_of_mem_take hj)) t (f := l.take k)
  have h2 : (l.take k).length ≤ 4096 := by rw [List.length_take]; omega
  omega
theorem js_small {l : List Jp} (hb : ∀ j ∈ l, -1048576 ≤ j.2 ∧ j.2 ≤ 1048576) (hn : l.length ≤ 4096) (k : Nat) : -4294967296 ≤ js (l.take k) ∧ js (l.take k) ≤ 4294967296 := by
  have h1 := js_bound (K := 1048576) (by omega) (fun j hj => hb j (List.mem_of_mem_take hj)) (f := l.take k)
  have h2 : (l.take k).length ≤ 4096 := by rw [List.length_take]; omega
  omega
theorem jv_next {l : List Jp} {k : Nat} {x : Jp} (hx : l[k]? = some x) (t : Int) : jv (l.take (k + 1)) t = if x.1 ≤ t then jv (l.take k) t + x.2 else jv (l.take k) t := by
  rw [take_snoc hx, jv_snoc]; split <;> omega
set_option maxHeartbeats 4000000 in
set_option maxRecDepth 100000 in
theorem refValue_c (l : List Jp) (hb : ∀ j ∈ l, -1048576 ≤ j.2 ∧ j.2 ≤ 1048576) (hn : l.length ≤ 4096) (t : Int) (v : Value) (w : World) (h : Jw w [] v l) : Calls Tryz.prog 140 #[v, .int .i64 t] w fun e w' => e = .returned (.int .i64 (jv l t)) ∧ Ext w w' := by
  obtain ⟨A, cap, rfl, hl, hm, hat⟩ := jw_form h
  unfold maxLen at hm
  replace hat := hide hat
  clear h
  obtain ⟨R, hR⟩ : ∃ R, R = jv l t := ⟨_, rfl⟩
  rw [← hR]
  replace hR := hide hR
  have hnI : (l.length : Int) ≤ 4096 := by omega
  replace hn := hide hn
  replace hb := hide hb
  go_enter Tryz.func140, Tryz.ntmps140
  go_wp2_with fail
  go_loopg [5, 6] l.length (fun gh s i wr => ∃ (k : Nat) (z : Int), i = .int .i64 k ∧ s = .int .i64 z ∧ k + gh = l.length ∧ Hid (z = jv (l.take k) t) ∧ Ext w wr)
  case atStart => exact ⟨0, 0, rfl, rfl, by omega, rfl, Ext.refl w⟩
  case round =>
    obtain ⟨k, z, rfl, rfl, hk, hz, hX⟩ := hrel
    by_cases hlt : k < l.length
    · obtain ⟨x, hx⟩ : ∃ x, l[k]? = some x := ⟨_, List.getElem?_eq_getElem hlt⟩
      obtain ⟨b, o, rfl, -, hbl, c0, c1⟩ := hat.out k x hx
      have k0 := jcell_later hX c0
      have k1 := jcell_later hX c1
      have hbr : b < wr.heap.size := block_lt_of_cell k0
      obtain ⟨z1, z2⟩ := (show -4294967296 ≤ z ∧ z ≤ 4294967296 by have := hz.out; rw [this]; exact jv_small hb.out hn.out k t)
      obtain ⟨n1, n2⟩ := hb.out x (List.mem_of_getElem? hx)
      have hnx := jv_next hx t
      rw [← hz.out] at hnx
      clear c0 c1 hx hz
      obtain ⟨xp, xn⟩ := x
      simp only at n1 n2 hnx k0 k1
      by_cases hle : xp ≤ t
      · rw [if_pos hle] at hnx
        replace hnx := hide hnx
        go_wp2_with fail
        go_roundg (l.length - (k + 1))
        case measure => omega
        case rel => exact ⟨k + 1, z + xn, by go_num, by go_num, by omega, hnx.out.symm, hX⟩
      · have d : decide (xp ≤ t) = false := by rw [decide_eq_false_iff_not]; exact hle
        rw [if_neg hle] at hnx
        replace hnx := hide hnx
        clear hle
        go_wp2_with fail
        go_roundg (l.length - (k + 1))
        case measure => omega
        case rel => exact ⟨k + 1, z, by go_num, rfl, by omega, hnx.out.symm, hX⟩
    · have hk' : k = l.length := by omega
      have hge : (l.length : Int) ≤ k := by omega
      have hR2 : Hid (R = z) := by show _ = _; have := hz.out; rw [hk', List.take_length] at this; rw [hR.out]; exact this.symm
      replace hk' := hide hk'
      clear hz hR
      go_wp2_with fail
      go_returns
      exact ⟨by rw [hR2.out]; rfl, hX⟩
set_option maxHeartbeats 4000000 in
set_option maxRecDepth 100000 in
theorem stepAt_c (l : List Jp) (t : Int) (v : Value) (w : World) (h : Jw w [] v l) : Calls Tryz.prog 119 #[v, .int .i64 t] w fun e w' => e = .returned (.int .i64 (atV l t)) ∧ Ext w w' := by
  have hm := hide (stepMay_c l v w h)
  obtain ⟨A, cap, rfl, hl, hmc, hat⟩ := jw_form h
  unfold maxLen at hmc
  replace hat := hide hat
  unfold atV
  clear h
  cases hb : mayJ l
  · rw [hb] at hm
    rw [if_neg (by decide)]
    replace hb := hide hb
    clear hat
    go_enter Tryz.func119, Tryz.ntmps119
    go_wp2_with (go_at_call 99; (with_reducible refine seq_gw hm.out ?_); intro g)
    go_returns
    exact ⟨rfl, g.grown⟩
  · rw [hb] at hm
    rw [if_pos rfl]
    have hnet := hide (mayJ_net hb)
    have hn := hide (show l.length ≤ 4096 by have := mayJ_len hb; omega)
    have hnI : (l.length : Int) ≤ 4096 := by have := hn.out; omega
    obtain ⟨R, hR⟩ : ∃ R, R = jv l t := ⟨_, rfl⟩
    rw [← hR]
    replace hR := hide hR
    replace hb := hide hb
    go_enter Tryz.func119, Tryz.ntmps119
    go_wp2_with (go_at_call 99; (with_reducible refine seq_gw hm.out ?_); intro g)
    go_loopg [5, 13] l.length (fun gh s i wr => ∃ (k : Nat) (z : Int), i = .int .i64 k ∧ s = .int .i64 z ∧ k + gh = l.length ∧ Hid (z = jv (l.take k) t) ∧ Ext w wr)
    case atStart => exact ⟨0, 0, rfl, rfl, by omega, rfl, g.grown⟩
    case round =>
      obtain ⟨k, z, rfl, rfl, hk, hz, hX⟩ := hrel
      by_cases hlt : k < l.length
      · obtain ⟨x, hx⟩ : ∃ x, l[k]? = some x := ⟨_, List.getElem?_eq_getElem hlt⟩
        obtain ⟨b, o, rfl, -, hbl, c0, c1⟩ := hat.out k x hx
        have k0 := jcell_later hX c0
        have k1 := jcell_later hX c1
        have hbr : b < wr.heap.size := block_lt_of_cell k0
        obtain ⟨z1, z2⟩ := (show -4294967296 ≤ z ∧ z ≤ 4294967296 by have := hz.out; rw [this]; exact jv_small hnet.out hn.out k t)
        obtain ⟨n1, n2⟩ := hnet.out x (List.mem_of_getElem? hx)
        have hnx := jv_next hx t
        rw [← hz.out] at hnx
        clear c0 c1 hx hz
        obtain ⟨xp, xn⟩ := x
        simp only at n1 n2 hnx k0 k1
        by_cases hle : xp ≤ t
        · rw [if_pos hle] at hnx
          replace hnx := hide hnx
          go_wp2_with fail
          go_roundg (l.length - (k + 1))
          case measure => omega
          case rel => exact ⟨k + 1, z + xn, by go_num, by go_num, by omega, hnx.out.symm, hX.alloc _⟩
        · have d : decide (xp ≤ t) = false := by rw [decide_eq_false_iff_not]; exact hle
          rw [if_neg hle] at hnx
          replace hnx := hide hnx
          clear hle
          go_wp2_with fail
          go_roundg (l.length - (k + 1))
          case measure => omega
          case rel => exact ⟨k + 1, z, by go_num, rfl, by omega, hnx.out.symm, hX.alloc _⟩
      · have hk' : k = l.length := by omega
        have hge : (l.length : Int) ≤ k := by omega
        have hR2 : Hid (R = z) := by show _ = _; have := hz.out; rw [hk', List.take_length] at this; rw [hR.out]; exact this.symm
        replace hk' := hide hk'
        clear hz hR
        go_wp2_with fail
        go_returns
        exact ⟨by rw [hR2.out]; rfl, hX⟩
theorem atV_of {l : List Jp} (h : mayJ l = true) (t : Int) : atV l t = jv l t := by unfold atV; rw [if_pos h]
theorem js_here {l : List Jp} (h : mayJ l = true) {k : Nat} {x : Jp} (hx : l[k]? = some x) : js (l.take (k + 1)) = jv l x.1 := by
  rw [take_snoc hx]
  have e : l = l.take k ++ x :: l.drop (k + 1) := by rw [← jdrop_cons hx, List.take_append_drop]
  have := js_at (f1 := l.take k) (f2 := l.drop (k + 1)) (j := x) (by rw [← e]; exact (mayJ_iff.1 h).2.2)
  rw [← e] at this
  exact this
theorem js_next {l : List Jp} {k : Nat} {x : Jp} (hx : l[k]? = some x) : js (l.take (k + 1)) = js (l.take k) + x.2 := by rw [take_snoc hx, js_snoc]
theorem le_next {l : List Jp} {k : Nat} {x : Jp} (m : Int) (hx : l[k]? = some x) : leF l m (l.take (k + 1)) = min (leF l m (l.take k)) (jv l x.1) := by rw [take_snoc hx, leF_snoc]
set_option maxHeartbeats 4000000 in
set_option maxRecDepth 100000 in
theorem stepLeast_c (l : List Jp) (v : Value) (w : World) (h : Jw w [] v l) : Calls Tryz.prog 105 #[v] w fun e w' => e = .returned (.int .i64 (leV l)) ∧ Ext w w' := by
  have hm := hide (stepMay_c l v w h)
  have ha := hide (fun w' (hX : Ext w w') => stepAt_c l (-1) v w' (Sl.ext h hX))
  obtain ⟨A, cap, rfl, hl, hmc, hat⟩ := jw_form h
  unfold maxLen at hmc
  replace hat := hide hat
  unfold leV
  clear h
  cases hb : mayJ l
  · rw [hb] at hm
    rw [if_neg (by decide)]
    replace hb := hide hb
    clear hat ha
    go_enter Tryz.func105, Tryz.ntmps105
    go_wp2_with (go_at_call 99; (with_reducible refine seq_gw hm.out ?_); intro g)
    go_returns
    exact ⟨rfl, g.grown⟩
  · rw [hb] at hm
    rw [if_pos rfl]
    rw [atV_of hb] at ha
    have hnet := hide (mayJ_net hb)
    have hn := hide (show l.length ≤ 4096 by have := mayJ_len hb; omega)
    have hnI : (l.length : Int) ≤ 4096 := by have := hn.out; omega
    obtain ⟨m0, hm0⟩ : ∃ m0, m0 = jv l (-1) := ⟨_, rfl⟩
    rw [← hm0] at ha ⊢
    obtain ⟨R, hR⟩ : ∃ R, R = leF l m0 l := ⟨_, rfl⟩
    rw [← hR]
    replace hR := hide hR
    replace hb := hide hb
    replace hm0 := hide hm0
    go_enter Tryz.func105, Tryz.ntmps105
    go_wp2_with (first | (go_at_call 99; (with_reducible refine seq_gw hm.out ?_); intro g) | (go_at_call 119; (with_reducible refine seq_gw' (ha.out _ g.grown) ?_); intro g2))
    go_loopg [3, 4, 14] l.length (fun gh m s i wr => ∃ (k : Nat) (y z : Int), i = .int .i64 k ∧ s = .int .i64 z ∧ m = .int .i64 y ∧ k + gh = l.length ∧ Hid (z = js (l.take k)) ∧ Hid (y = leF l m0 (l.take k)) ∧ Ext w wr)
    case atStart => exact ⟨0, m0, 0, rfl, rfl, rfl, by omega, rfl, rfl, g2.grown⟩
    case round =>
      clear ha
      obtain ⟨k, y, z, rfl, rfl, rfl, hk, hz, hy, hX⟩ := hrel
      by_cases hlt : k < l.length
      · obtain ⟨x, hx⟩ : ∃ x, l[k]? = some x := ⟨_, List.getElem?_eq_getElem hlt⟩
        obtain ⟨b, o, rfl, -, hbl, c0, c1⟩ := hat.out k x hx
        have k0 := jcell_later hX c0
        have k1 := jcell_later hX c1
        have hbr : b < wr.heap.size := block_lt_of_cell k0
        obtain ⟨z1, z2⟩ := (show -4294967296 ≤ z ∧ z ≤ 4294967296 by have := hz.out; rw [this]; exact js_small hnet.out hn.out k)
        obtain ⟨n1, n2⟩ := hnet.out x (List.mem_of_getElem? hx)
        have hnx := js_next hx
        rw [← hz.out] at hnx
        have hny := le_next m0 hx
        rw [← hy.out, ← js_here hb.out hx, hnx] at hny
        clear c0 c1 hx hz hy
        obtain ⟨xp, xn⟩ := x
        simp only at n1 n2 hnx hny k0 k1
        replace hnx := hide hnx
        by_cases hle : y ≤ z + xn
        · rw [Int.min_eq_left hle] at hny
          replace hny := hide hny
          have d1 : decide (z + xn < y) = false := by rw [decide_eq_false_iff_not]; omega
          go_wp2_with fail
          go_roundg (l.length - (k + 1))
          case measure => omega
          case rel => exact ⟨k + 1, y, z + xn, by go_num, by go_num, by simp [hle], by omega, hnx.out.symm, hny.out.symm, hX.alloc _⟩
        · have hle' : z + xn < y := by omega
          rw [Int.min_eq_right (by omega)] at hny
          replace hny := hide hny
          clear hle
          go_wp2_with fail
          go_roundg (l.length - (k + 1))
          case measure => omega
          case rel => exact ⟨k + 1, z + xn, z + xn, by go_num, by go_num, by simp [hle'], by omega, hnx.out.symm, hny.out.symm, hX.alloc _⟩
      · have hk' : k = l.length := by omega
        have hge : (l.length : Int) ≤ k := by omega
        have hR2 : Hid (R = y) := by show _ = _; have := hy.out; rw [hk', List.take_length] at this; rw [hR.out]; exact this.symm
        replace hk' := hide hk'
        clear hz hR hy
        go_wp2_with fail
        go_returns
        exact ⟨by rw [hR2.out]; rfl, hX⟩
set_option maxHeartbeats 4000000 in
set_option maxRecDepth 100000 in
theorem refStepLeast_c (l : List Jp) (v : Value) (w : World) (h : Jw w [] v l) : Calls Tryz.prog 116 #[v] w fun e w' => e = .returned (.int .i64 (leV l)) ∧ Ext w w' := by
  have hm := hide (refStepMay_c l v w h)
  have hv := hide (fun (hb : ∀ j ∈ l, -1048576 ≤ j.2 ∧ j.2 ≤ 1048576) (hn : l.length ≤ 4096) t w' (hX : Ext w w') => refValue_c l hb hn t v w' (Sl.ext h hX))
  obtain ⟨A, cap, rfl, hl, hmc, hat⟩ := jw_form h
  unfold maxLen at hmc
  replace hat := hide hat
  unfold leV
  clear h
  cases hb : mayJ l
  · rw [hb] at hm
    rw [if_neg (by decide)]
    replace hb := hide hb
    clear hat hv
    go_enter Tryz.func116, Tryz.ntmps116
    go_wp2_with (go_at_call 114; (with_reducible refine seq_gw hm.out ?_); intro g)
    go_returns
    exact ⟨rfl, g.grown⟩
  · rw [hb] at hm
    rw [if_pos rfl]
    have hv' := hide (hv.out (mayJ_net hb) (by have := mayJ_len hb; omega))
    have hn := hide (show l.length ≤ 4096 by have := mayJ_len hb; omega)
    have hnI : (l.length : Int) ≤ 4096 := by have := hn.out; omega
    obtain ⟨m0, hm0⟩ : ∃ m0, m0 = jv l (-1) := ⟨_, rfl⟩
    have hv1 := hide (hv'.out (-1))
    rw [← hm0] at hv1 ⊢
    obtain ⟨R, hR⟩ : ∃ R, R = leF l m0 l := ⟨_, rfl⟩
    rw [← hR]
    replace hR := hide hR
    replace hb := hide hb
    replace hm0 := hide hm0
    clear hv
    go_enter Tryz.func116, Tryz.ntmps116
    go_wp2_with (first | (go_at_call 114; (with_reducible refine seq_gw hm.out ?_); intro g) | (go_at_call 140; (with_reducible refine seq_gw' (hv1.out _ g.grown) ?_); intro g2))
    go_loopg [3, 4] l.length (fun gh m i wr => ∃ (k : Nat) (y : Int), i = .int .i64 k ∧ m = .int .i64 y ∧ k + gh = l.length ∧ Hid (y = leF l m0 (l.take k)) ∧ Ext w wr)
    case atStart => exact ⟨0, m0, rfl, rfl, by omega, rfl, g2.grown⟩
    case round =>
      clear hv1
      obtain ⟨k, y, rfl, rfl, hk, hy, hX⟩ := hrel
      by_cases hlt : k < l.length
      · obtain ⟨x, hx⟩ : ∃ x, l[k]? = some x := ⟨_, List.getElem?_eq_getElem hlt⟩
        obtain ⟨b, o, rfl, -, hbl, c0, c1⟩ := hat.out k x hx
        have k0 := jcell_later hX c0
        have hbr : b < wr.heap.size := block_lt_of_cell k0
        haveI : In b wr := ⟨hbr⟩
        have hny := le_next m0 hx
        rw [← hy.out] at hny
        clear c0 c1 hx hy
        obtain ⟨xp, xn⟩ := x
        simp only at hny k0
        have hv2 := hide (hv'.out xp)
        obtain ⟨z, hz⟩ : ∃ z, z = jv l xp := ⟨_, rfl⟩
        rw [← hz] at hny hv2
        clear hz
        by_cases hle : z < y
        · rw [Int.min_eq_right (by omega)] at hny
          replace hny := hide hny
          go_wp2_with (go_at_call 140; (with_reducible first | (refine seq_gw (hv2.out _ hX) ?_) | (refine seq_gw' (hv2.out _ (hX.trans g5.grown)) ?_)); intro g5)
          go_roundg (l.length - (k + 1))
          case measure => omega
          case rel => exact ⟨k + 1, z, by go_num, rfl, by omega, hny.out.symm, hX.trans g5.grown⟩
        · have d : decide (z < y) = false := by rw [decide_eq_false_iff_not]; exact hle
          rw [Int.min_eq_left (by omega)] at hny
          replace hny := hide hny
          clear hle
          go_wp2_with (go_at_call 140; (with_reducible refine seq_gw (hv2.out _ hX) ?_); intro g5)
          go_roundg (l.length - (k + 1))
          case measure => omega
          case rel => exact ⟨k + 1, y, by go_num, rfl, by omega, hny.out.symm, hX.trans g5.grown⟩
      · have hk' : k = l.length := by omega
        have hge : (l.length : Int) ≤ k := by omega
        have hR2 : Hid (R = y) := by show _ = _; have := hy.out; rw [hk', List.take_length] at this; rw [hR.out]; exact this.symm
        replace hk' := hide hk'
        clear hR hy
        go_wp2_with fail
        go_returns
        exact ⟨by rw [hR2.out]; rfl, hX⟩
end Go.Proofs.YtljkneajdndgjaaGreat
set_option linter.unusedVariables false
set_option linter.unusedSimpArgs false
namespace Go.Proofs.YtljkneajdndgjaaGreat
open Go.RowKit

/-- Each operation waits for earlier ones alone. -/
def acycB (ops : Array Oper) : Bool := (List.range ops.size).all fun i => match ops[i]? with
  | some o => o.after.all fun e => !Region.binds .any e || decide (e.on < i)
  | none => true
def dstsOf (ops : Array Oper) : List Tmp := ops.toList.filterMap (·.dst)
/-- No two operations write one slot, and all slots are there. -/
def dstsB (ops : Array Oper) (n : Nat) : Bool := (dstsOf ops).all (fun d => decide (d < n)) && (List.range ops.size).all fun i => (List.range ops.size).all fun j =>
  i == j || match ops[i]?, ops[j]? with
    | some o, some p => (match o.dst, p.dst with | some d, some c => d != c | _, _ => true)
    | _, _ => true
def depB (ops : Array Oper) (i j : Nat) : Bool := match ops[i]? with
  | some o => o.after.any fun e => Region.binds .any e && e.on == j
  | none => false

def cntF : List Bool → Nat
  | [] => 0
  | b :: r => (if b then 0 else 1) + cntF r
theorem cntF_set : ∀ (l : List Bool) (i : Nat), l[i]? = some false → cntF (l.set i true) + 1 = cntF l
  | b :: r, 0, h => by simp at h; subst h; simp [cntF]; omega
  | b :: r, i + 1, h => by have := cntF_set r i (by simpa using h); simp only [List.set_cons_succ, cntF]; omega
theorem cntF_zero : ∀ (l : List Bool) (i : Nat) (b : Bool), cntF l = 0 → l[i]? = some b → b = true
  | c :: r, 0, b, h, hb => by simp at hb; subst hb; simp [cntF] at h; cases c <;> simp_all
  | c :: r, i + 1, b, h, hb => cntF_zero r i b (by simp [cntF] at h; omega) (by simpa using hb)
theorem cntF_rep (n : Nat) : cntF (List.replicate n false) = n := by induction n with
  | zero => rfl
  | succ n ih => simp [List.replicate_succ, cntF, ih]; omega

theorem getD_some {l : Array Bool} {i : Nat} {d : Bool} (h : i < l.size) : l[i]? = some (l.getD i d) := by
  simp [Array.getD, h]

section
variable {P : Program} {ops : Array Oper} {Φ : Nat → Value → World → Prop} {Q : Exit → Act → World → Prop} {a : Act} {W : World}

/-- What holds of the frame b and the world w behind the listed operations. -/
structure RInv (ops : Array Oper) (Φ : Nat → Value → World → Prop) (a : Act) (W : World) (listed : Array Bool) (b : Act) (w : World) : Prop where
  ext : Ext W w
  defers : b.defers = a.defers
  size : b.tmps.size = a.tmps.size
  len : listed.size = ops.size
  else_ : ∀ t, t ∉ dstsOf ops → b.tmps.getD t undef = a.tmps.getD t undef
  fact : ∀ j o d, ops[j]? = some o → listed.getD j false = true → o.dst = some d → Φ j (b.tmps.getD d undef) w

/-- What an operation finds. -/
structure RAt (ops : Array Oper) (Φ : Nat → Value → World → Prop) (a : Act) (W : World) (i : Nat) (b : Act) (w : World) : Prop where
  ext : Ext W w
  defers : b.defers = a.defers
  size : b.tmps.size = a.tmps.size
  else_ : ∀ t, t ∉ dstsOf ops → b.tmps.getD t undef = a.tmps.getD t undef
  dep : ∀ j o d, depB ops i j = true → ops[j]? = some o → o.dst = some d → Φ j (b.tmps.getD d undef) w

/-- What an operation must do. -/
def RGood (P : Program) (ops : Array Oper) (Φ : Nat → Value → World → Prop) (Q : Exit → Act → World → Prop) (i : Nat) (o : Oper) (b : Act) (w : World) : Prop :=
  (Region.wanted o (yielded ops b.tmps) = true ∧ o.wp P b w (fun b' w' => ∃ v, b' = b.put o.dst v ∧ Φ i v w' ∧ Ext w w') Q) ∨ (Region.wanted o (yielded ops b.tmps) = false ∧ Φ i undef w)

theorem all_listed (hB : acycB ops = true) {listed : Array Bool} (hl : listed.size = ops.size) (hr : Region.ready .any ops listed = []) : ∀ j, j < ops.size → listed.getD j false = true := by
  intro j
  induction j using Nat.strongRecOn with
  | ind j ih =>
    intro hj
    cases h : listed.getD j false with
    | true => rfl
    | false =>
      exfalso
      have hjl : j < listed.size := by omega
      have ho : ops[j]? = some ops[j] := Array.getElem?_eq_getElem hj
      have hacy := List.all_eq_true.1 hB j (List.mem_range.2 hj)
      rw [ho] at hacy
      have : j ∈ Region.ready .any ops listed := mem_ready.2 ⟨by
        have e1 := getD_some (l := listed) (d := false) hjl
        have e2 := getD_some (l := listed) (d := true) hjl
        rw [e1] at e2; rw [← Option.some.inj e2]; exact h, _, ho, fun e he hb => by
        have h2 := Array.all_eq_true_iff_forall_mem.1 hacy e he
        simp [hb] at h2
        exact ih e.on h2 (by omega)⟩
      rw [hr] at this; cases this

theorem put_other {b : Act} {dst : Option Tmp} {v : Value} {t : Nat} (h : dst ≠ some t) : (b.put dst v).tmps.getD t undef = b.tmps.getD t undef := by
  cases dst with
  | none => rfl
  | some d =>
    have : d ≠ t := fun e => h (by rw [e])
    simp [Act.put, Array.getD_eq_getD_getElem?, Array.getElem?_setIfInBounds, this]
theorem put_same {b : Act} {d : Nat} {v : Value} (h : d < b.tmps.size) : (b.put (some d) v).tmps.getD d undef = v := by
  simp [Act.put, Array.getD_eq_getD_getElem?, Array.getElem?_setIfInBounds, h]
theorem put_defers {b : Act} {dst : Option Tmp} {v : Value} : (b.put dst v).defers = b.defers := by cases dst <;> rfl
theorem put_size {b : Act} {dst : Option Tmp} {v : Value} : (b.put dst v).tmps.size = b.tmps.size := by cases dst <;> simp [Act.put]

theorem wpAny_facts (hA : acycB ops = true) (hD : dstsB ops a.tmps.size = true) (hst : ∀ i v w w', Φ i v w → Ext w w' → Φ i v w')
    (hstep : ∀ i o, ops[i]? = some o → ∀ b w, RAt ops Φ a W i b w → RGood P ops Φ Q i o b w)
    (hend : ∀ b w, Ext W w → b.defers = a.defers → b.tmps.size = a.tmps.size → (∀ t, t ∉ dstsOf ops → b.tmps.getD t undef = a.tmps.getD t undef) →
      (∀ j o d, ops[j]? = some o → o.dst = some d → Φ j (b.tmps.getD d undef) w) → Q .normal b w) :
    ∀ (f : Nat) (listed : Array Bool) (b : Act) (w : World), RInv ops Φ a W listed b w → cntF listed.toList ≤ f → wpAny P .any ops Q f listed b w := by
  have fin : ∀ (listed : Array Bool) (b : Act) (w : World), RInv ops Φ a W listed b w → (∀ j, j < ops.size → listed.getD j false = true) → Q .normal b w := by
    intro listed b w I hl
    exact hend b w I.ext I.defers I.size I.else_ fun j o d ho hd => I.fact j o d ho (hl j (Array.getElem?_eq_some_iff.1 ho).1) hd
  intro f
  induction f with
  | zero =>
    intro listed b w I hc
    have hl : ∀ j, j < ops.size → listed.getD j false = true := fun j hj => cntF_zero listed.toList j _ (by omega) (by simpa using getD_some (by have := I.len; omega))
    refine ⟨?_, fin _ _ _ I hl⟩
    cases hr : Region.ready .any ops listed with
    | nil => rfl
    | cons j r =>
      have := (mem_ready.1 (show j ∈ Region.ready .any ops listed by rw [hr]; simp))
      obtain ⟨h1, o, ho, _⟩ := this
      have hj := (Array.getElem?_eq_some_iff.1 ho).1
      have h2 := hl j hj
      have hjl : j < listed.size := by have := I.len; omega
      have e1 := getD_some (l := listed) (d := false) hjl
      have e2 := getD_some (l := listed) (d := true) hjl
      rw [e1] at e2; have := Option.some.inj e2; rw [h1, h2] at this; cases this
  | succ f ih =>
    intro listed b w I hc
    refine ⟨fun hr => fin _ _ _ I (all_listed hA I.len hr), fun i hi => ?_⟩
    obtain ⟨h1, o, ho, hdep⟩ := mem_ready.1 hi
    have hj := (Array.getElem?_eq_some_iff.1 ho).1
    have hjl : i < listed.size := by have := I.len; omega
    have hat : RAt ops Φ a W i b w := ⟨I.ext, I.defers, I.size, I.else_, fun j p d hd hp hpd => I.fact j p d hp (by
      unfold depB at hd; rw [ho] at hd
      obtain ⟨k, hk, he⟩ := Array.any_eq_true.1 hd
      simp only [Bool.and_eq_true, beq_iff_eq] at he
      have := hdep _ (Array.getElem_mem hk) he.1
      rwa [he.2] at this) hpd⟩
    have hget : (listed.toList)[i]? = some false := by
      have e2 := getD_some (l := listed) (d := true) hjl
      rw [h1] at e2; simpa using e2
    have hcnt : cntF (listed.setIfInBounds i true).toList ≤ f := by
      have := cntF_set listed.toList i hget
      simp only [Array.toList_setIfInBounds]; omega
    have go : ∀ (v : Value) (w' : World), Φ i v w' → Ext w w' → wpAny P .any ops Q f (listed.setIfInBounds i true) (b.put o.dst v) w' := by
      intro v w' hv hx
      refine ih _ _ _ ⟨I.ext.trans hx, put_defers.trans I.defers, put_size.trans I.size, by simpa using I.len, fun t ht => ?_, fun j p d hp hl hd => ?_⟩ hcnt
      · rw [put_other, I.else_ t ht]
        intro e
        exact ht (List.mem_filterMap.2 ⟨o, by rw [Array.mem_toList_iff]; exact Array.mem_of_getElem? ho, e⟩)
      · have hds : d < b.tmps.size := by
          rw [I.size]
          have := List.all_eq_true.1 (Bool.and_eq_true_iff.1 hD).1 d (List.mem_filterMap.2 ⟨p, by rw [Array.mem_toList_iff]; exact Array.mem_of_getElem? hp, hd⟩)
          simpa using this
        by_cases hij : i = j
        · subst hij
          rw [ho] at hp; cases hp
          rw [hd, put_same hds]; exact hv
        · have hl' : listed.getD j false = true := by
            rw [Array.getD_eq_getD_getElem?, Array.getElem?_setIfInBounds, if_neg hij] at hl
            rw [Array.getD_eq_getD_getElem?]; exact hl
          have hpj := (Array.getElem?_eq_some_iff.1 hp).1
          have hne : o.dst ≠ some d := by
            intro e
            have h2 := List.all_eq_true.1 (List.all_eq_true.1 (Bool.and_eq_true_iff.1 hD).2 i (List.mem_range.2 hj)) j (List.mem_range.2 hpj)
            simp [hij, ho, hp, e, hd] at h2
          rw [put_other hne]
          exact hst _ _ _ _ (I.fact j p d hp hl' hd) hx
    unfold wpOp
    rcases hstep i o ho b w hat with ⟨hw, hwp⟩ | ⟨hw, hv⟩
    · simp only [ho, hw, if_true]
      left
      refine Oper.wp_mono ?_ hwp
      rintro b' w' ⟨v, rfl, hv, hx⟩
      exact go v w' hv hx
    · simp only [ho, hw]
      exact go undef w hv (Ext.refl w)

theorem wp_region_facts {id : Nat} {w : World} (hm : P.follows .mixedOrders = true) (hA : acycB ops = true) (hD : dstsB ops a.tmps.size = true) (Φ : Nat → Value → World → Prop) (hst : ∀ i v w w', Φ i v w → Ext w w' → Φ i v w')
    (hstep : ∀ i o, ops[i]? = some o → ∀ b w', RAt ops Φ a w i b w' → RGood P ops Φ Q i o b w')
    (hend : ∀ b w', Ext w w' → b.defers = a.defers → b.tmps.size = a.tmps.size → (∀ t, t ∉ dstsOf ops → b.tmps.getD t undef = a.tmps.getD t undef) →
      (∀ j o d, ops[j]? = some o → o.dst = some d → Φ j (b.tmps.getD d undef) w') → Q .normal b w') : (Code.region id ops true).wp P Q a w := by
  refine wp_region_any hm (wpAny_facts (W := w) hA hD hst hstep hend _ _ _ _ ⟨(Ext.refl w).drew, rfl, rfl, by simp, fun _ _ => rfl, fun j o d ho hl _ => ?_⟩ (by rw [Array.toList_replicate, cntF_rep]; exact Nat.le_refl _))
  rw [Array.getD_eq_getD_getElem?] at hl
  by_cases hj : j < ops.size <;> simp [hj] at hl

/-- A frame that differs in the slots D alone. -/
theorem frame_puts {b a : Act} {D : List Tmp} (hd : b.defers = a.defers) (hz : b.tmps.size = a.tmps.size) (he : ∀ t, t ∉ D → b.tmps.getD t undef = a.tmps.getD t undef) :
    b = D.foldl (fun f d => f.put (some d) (b.tmps.getD d undef)) a := by
  have key : ∀ (D : List Tmp) (f : Act), f.defers = b.defers → f.tmps.size = b.tmps.size → (∀ t, t ∉ D → b.tmps.getD t undef = f.tmps.getD t undef) → b = D.foldl (fun f d => f.put (some d) (b.tmps.getD d undef)) f := by
    intro D
    induction D with
    | nil =>
      intro f h1 h2 h3
      obtain ⟨bt, bd⟩ := b
      obtain ⟨ft, fd⟩ := f
      simp only at h1 h2 h3
      subst h1
      have : bt = ft := by
        apply Array.ext
        · exact h2.symm
        · intro i hi hj
          have := h3 i (by simp)
          rw [Array.getD_eq_getD_getElem?, Array.getD_eq_getD_getElem?, Array.getElem?_eq_getElem hi, Array.getElem?_eq_getElem hj] at this
          simpa using this
      rw [this]; rfl
    | cons d D ih =>
      intro f h1 h2 h3
      refine ih _ (put_defers.trans h1) (put_size.trans h2) fun t ht => ?_
      by_cases htd : t = d
      · subst htd
        by_cases hlt : t < f.tmps.size
        · rw [put_same hlt]
        · have e1 : ∀ (c : Act), ¬ t < c.tmps.size → c.tmps.getD t undef = undef := fun c h => by simp [Array.getD, h]
          rw [e1 b (by rw [← h2]; exact hlt), e1 _ (by rw [put_size]; exact hlt)]
      · rw [put_other (fun e => htd (Option.some.inj e).symm)]
        exact h3 t (by simp [htd, ht])
  exact key D a hd.symm hz.symm he
/-- All operations of a list, each by itself. -/
def RSteps (S : Nat → Oper → Prop) : Nat → List Oper → Prop
  | _, [] => True
  | k, o :: r => S k o ∧ RSteps S (k + 1) r
theorem RSteps.get {S : Nat → Oper → Prop} : ∀ (k : Nat) (l : List Oper), RSteps S k l → ∀ j o, l[j]? = some o → S (k + j) o
  | k, [], _, j, o, h => by simp at h
  | k, p :: r, ⟨h0, h1⟩, 0, o, h => by simp at h; subst h; exact h0
  | k, p :: r, ⟨h0, h1⟩, j + 1, o, h => by
    have := RSteps.get (k + 1) r h1 j o (by simpa using h)
    rwa [show k + 1 + j = k + (j + 1) by omega] at this

/-- What may be known of a value: it stays known in grown worlds. -/
inductive Fact where
  | is (v : Value)
  | bytes (l : List UInt8)
  | st (p : Value → World → Prop) (h : ∀ v w w', p v w → Ext w w' → p v w')
  | any
def Fact.holds : Fact → Value → World → Prop
  | .is u, v, _ => v = u
  | .bytes l, v, w => By w [] v l
  | .st p _, v, w => p v w
  | .any, _, _ => True
theorem Fact.stays (f : Fact) (v : Value) (w w' : World) (h : f.holds v w) (hx : Ext w w') : f.holds v w' := by
  cases f with
  | is u => exact h
  | bytes l => exact Sl.ext h hx
  | st p hp => exact hp v w w' h hx
  | any => trivial
def factsOf (L : List Fact) (i : Nat) (v : Value) (w : World) : Prop := (L.getD i .any).holds v w

theorem wp_region_list {id : Nat} {w : World} (L : List Fact) (hm : P.follows .mixedOrders = true) (hA : acycB ops = true) (hD : dstsB ops a.tmps.size = true)
    (hstep : RSteps (fun k o => ∀ b w', RAt ops (factsOf L) a w k b w' → RGood P ops (factsOf L) Q k o b w') 0 ops.toList)
    (hend : ∀ b w', Ext w w' → b.defers = a.defers → b.tmps.size = a.tmps.size → (∀ t, t ∉ dstsOf ops → b.tmps.getD t undef = a.tmps.getD t undef) →
      (∀ j o d, ops[j]? = some o → o.dst = some d → factsOf L j (b.tmps.getD d undef) w') → Q .normal b w') : (Code.region id ops true).wp P Q a w :=
  wp_region_facts hm hA hD (factsOf L) (fun i v w w' h hx => Fact.stays _ v w w' h hx) (fun i o ho b w' h => by
    have := RSteps.get 0 ops.toList hstep i o (by simpa using ho) b w'
    rw [Nat.zero_add] at this
    exact this h) hend

section
variable {i : Nat} {o : Oper} {b : Act} {w : World}
theorem good_run {v : Value} (hg : Region.wanted o (yielded ops b.tmps) = true) (hr : (execOp b.eval o).run P w = .ok (.value v) w) (hΦ : Φ i v w) : RGood P ops Φ Q i o b w :=
  .inl ⟨hg, by unfold Oper.wp; rw [hr]; exact ⟨v, rfl, hΦ, Ext.refl w⟩⟩
theorem good_move {x : Operand} (hg : Region.wanted o (yielded ops b.tmps) = true) (ho : o.op = .move x) (hΦ : Φ i (b.eval x) w) : RGood P ops Φ Q i o b w :=
  good_run hg (by simp [execOp, ho, Sem.run_pure]) hΦ
theorem exec_binOp {ρ : Operand → Value} {op : BinOp} {t ty : TypeId} {x y : Operand} {u1 u2 v : Value} (ho : o.op = .binOp op t x y ty) (hx : ρ x = u1) (hy : ρ y = u2)
    (hg : (eqGuard op t x y u1 u2).run P w = .ok () w) (hr : (binOp op t u1 u2).run P w = .ok v w) : (execOp ρ o).run P w = .ok (.value v) w := by
  simp only [execOp, ho, hx, hy, Sem.run_bind, hg, hr, Sem.run_pure, Result.andThen_ok]
theorem good_bin {op : BinOp} {t ty : TypeId} {x y : Operand} {u1 u2 v : Value} (hg : Region.wanted o (yielded ops b.tmps) = true) (ho : o.op = .binOp op t x y ty) (hx : b.eval x = u1) (hy : b.eval y = u2)
    (he : (eqGuard op t x y u1 u2).run P w = .ok () w) (hr : (binOp op t u1 u2).run P w = .ok v w) (hΦ : Φ i v w) : RGood P ops Φ Q i o b w :=
  good_run hg (exec_binOp ho hx hy he hr) hΦ
theorem wanted_none (hg : o.guard = none) : Region.wanted o (yielded ops b.tmps) = true := by unfold Region.wanted; rw [hg]
theorem enters {f : FuncId} {fn : Func} {c : Code} (hf : P.funcs[f]? = some fn) (hname : (fn.name == "runtime.NumGoroutine") = false) (hb : fn.body = some c) : ∀ args w, (callFunc f args).run P w = .ok (.enter f args) w := by
  intro args w
  have h1 : fn.name ≠ "runtime.NumGoroutine" := by simpa using hname
  simp [callFunc, hf, h1, hb, mark]
theorem exec_field {ρ : Operand → Value} {t : TypeId} {x : Operand} {k : Nat} {u v : Value} (ho : o.op = .fieldAddr t x k) (hx : ρ x = u) (hr : (Instr.fieldAt t u k).run P w = .ok v w) : (execOp ρ o).run P w = .ok (.value v) w := by
  simp only [execOp, ho, hx, Sem.run_bind, hr, Sem.run_pure, Result.andThen_ok]
theorem good_field {t : TypeId} {x : Operand} {k : Nat} {u v : Value} (hg : Region.wanted o (yielded ops b.tmps) = true) (ho : o.op = .fieldAddr t x k) (hx : b.eval x = u) (hr : (Instr.fieldAt t u k).run P w = .ok v w) (hΦ : Φ i v w) : RGood P ops Φ Q i o b w :=
  good_run hg (exec_field ho hx hr) hΦ
theorem exec_index {ρ : Operand → Value} {t : TypeId} {x y : Operand} {u u' v : Value} (ho : o.op = .indexAddr t x y) (hx : ρ x = u) (hy : ρ y = u') (hr : (Instr.indexAt t u u').run P w = .ok v w) : (execOp ρ o).run P w = .ok (.value v) w := by
  simp only [execOp, ho, hx, hy, Sem.run_bind, hr, Sem.run_pure, Result.andThen_ok]
theorem good_index {t : TypeId} {x y : Operand} {u u' v : Value} (hg : Region.wanted o (yielded ops b.tmps) = true) (ho : o.op = .indexAddr t x y) (hx : b.eval x = u) (hy : b.eval y = u') (hr : (Instr.indexAt t u u').run P w = .ok v w) (hΦ : Φ i v w) : RGood P ops Φ Q i o b w :=
  good_run hg (exec_index ho hx hy hr) hΦ
theorem exec_load {ρ : Operand → Value} {t : TypeId} {x : Operand} {u v : Value} (ho : o.op = .load t x) (hx : ρ x = u) (hr : (Instr.loadAt t u).run P w = .ok v w) : (execOp ρ o).run P w = .ok (.value v) w := by
  simp only [execOp, ho, hx, Sem.run_bind, hr, Sem.run_pure, Result.andThen_ok]
theorem good_load {t : TypeId} {x : Operand} {u v : Value} (hg : Region.wanted o (yielded ops b.tmps) = true) (ho : o.op = .load t x) (hx : b.eval x = u) (hr : (Instr.loadAt t u).run P w = .ok v w) (hΦ : Φ i v w) : RGood P ops Φ Q i o b w :=
  good_run hg (exec_load ho hx hr) hΦ
theorem exec_len {ρ : Operand → Value} {t ty : TypeId} {x : Operand} {A : Option Addr} {n c : Nat} {e : TypeId} (ho : o.op = .call { callee := .builtin .len, args := #[x], argTypes := #[t] }) (ht : P.underlying t = some (.slice e)) (hx : ρ x = .slice A n c) : (execOp ρ o).run P w = .ok (.value (.int .i64 n)) w := by
  simp [execOp, ho, resolve, invoke, builtin, hx, go_sem, ht, Builtin.len_, run_underlying ht, goInt]
theorem good_len {t : TypeId} {x : Operand} {A : Option Addr} {n c : Nat} {e : TypeId} (hg : Region.wanted o (yielded ops b.tmps) = true) (ho : o.op = .call { callee := .builtin .len, args := #[x], argTypes := #[t] }) (ht : P.underlying t = some (.slice e)) (hx : b.eval x = .slice A n c) (hΦ : Φ i (.int .i64 n) w) : RGood P ops Φ Q i o b w :=
  good_run hg (exec_len (ty := 0) ho ht hx) hΦ
theorem run_sub_i64 {t : TypeId} (ht : P.underlying t = some (.int .i64)) (n m r : Int) (hr : n - m = r) (h : -9223372036854775808 ≤ r ∧ r ≤ 9223372036854775807) (w : World) : (binOp .sub t (.int .i64 n) (.int .i64 m)).run P w = .ok (.int .i64 r) w := by
  subst hr
  have := IntWalk.i64_in _ h
  simp [go_sem, ht, this]
theorem good_call {f : FuncId} {xs : Array Operand} {ats : Array TypeId} (hg : Region.wanted o (yielded ops b.tmps) = true) (ho : o.op = .call { callee := .value (.func f), args := xs, argTypes := ats })
    (he : ∀ args w, (callFunc f args).run P w = .ok (.enter f args) w) (hc : Calls P f (xs.map b.eval) w fun e w' => ∃ v, e = .returned v ∧ Φ i v w' ∧ Ext w w') : RGood P ops Φ Q i o b w := by
  refine .inl ⟨hg, ?_⟩
  unfold Oper.wp
  have : (execOp b.eval o).run P w = .ok (.enter f (xs.map b.eval)) w := by
    simp [execOp, ho, resolve, Act.eval, Deferred.ofValue, invoke, he, go_sem]
  rw [this]
  exact hc.mono fun e w' ⟨v, he, h1, h2⟩ => by subst he; exact ⟨v, rfl, h1, h2⟩
end
end
end Go.Proofs.YtljkneajdndgjaaGreat
