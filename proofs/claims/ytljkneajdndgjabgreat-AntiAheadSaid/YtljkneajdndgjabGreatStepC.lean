/-
  A helper of ours: no claim of its own. Layer 9 (step): values of step functions, on both sides.
-/
import Derived.Test.YtljkneajdndgjabGreatStepB
set_option linter.unusedVariables false
set_option linter.unusedSimpArgs false
namespace Go.Proofs.YtljkneajdndgjabGreat
open Go.RowKit
attribute [local go_sem] GW.cell GW.frozen In.eq_true In.le_true In.ne In.ne' In.ne_add In.ne_add' In.lt_add Upto.le_true Upto.le_add Upto.lt_add
theorem jv_small {l : List Jp} (hb : ∀ j ∈ l, -1048576 ≤ j.2 ∧ j.2 ≤ 1048576) (hn : l.length ≤ 4096) (k : Nat) (t : Int) : -4294967296 ≤ jv (l.take k) t ∧ jv (l.take k) t ≤ 4294967296 := by
  have h1 := jv_bound (K := 1048576) (by omega) (fun j hj => hb j (List.mem_of_mem_take hj)) t (f := l.take k)
  have h2 : (l.take k).length ≤ 4096 := by rw [List.length_take]; omega
  omega
theorem js_small {l : List Jp} (hb : ∀ j ∈ l, -1048576 ≤ j.2 ∧ j.2 ≤ 1048576) (hn : l.length ≤ 4096) (k : Nat) : -4294967296 ≤ js (l.take k) ∧ js (l.take k) ≤ 4294967296 := by
  have h1 := js_bound (K := 1048576) (by omega) (fun j hj => hb j (List.mem_of_mem_take hj)) (f := l.take k)
  have h2 : (l.take k).length ≤ 4096 := by rw [List.length_take]; omega
  omega
theorem jv_next {l : List Jp} {k : Nat} {x : Jp} (hx : l[k]? = some x) (t : Int) : jv (l.take (k + 1)) t = if x.1 ≤ t then jv (l.take k) t + x.2 else jv (l.take k) t := by
  rw [take_snoc hx, jv_snoc]; split <;> omega
set_option maxHeartbeats 4000000 in
set_option maxRecDepth 100000 in
theorem refValue_c (l : List Jp) (hb : ∀ j ∈ l, -1048576 ≤ j.2 ∧ j.2 ≤ 1048576) (hn : l.length ≤ 4096) (t : Int) (v : Value) (w : World) (h : Jw w [] v l) : Calls Tryz.prog 18 #[v, .int .i64 t] w fun e w' => e = .returned (.int .i64 (jv l t)) ∧ Ext w w' := by
  obtain ⟨A, cap, rfl, hl, hm, hat⟩ := jw_form h
  unfold maxLen at hm
  replace hat := hide hat
  clear h
  obtain ⟨R, hR⟩ : ∃ R, R = jv l t := ⟨_, rfl⟩
  rw [← hR]
  replace hR := hide hR
  have hnI : (l.length : Int) ≤ 4096 := by omega
  replace hn := hide hn
  replace hb := hide hb
  go_enter Tryz.func18, Tryz.ntmps18
  go_wp2_with fail
  go_loopg [5, 6] l.length (fun gh s i wr => ∃ (k : Nat) (z : Int), i = .int .i64 k ∧ s = .int .i64 z ∧ k + gh = l.length ∧ Hid (z = jv (l.take k) t) ∧ Ext w wr)
  case atStart => exact ⟨0, 0, rfl, rfl, by omega, rfl, Ext.refl w⟩
  case round =>
    obtain ⟨k, z, rfl, rfl, hk, hz, hX⟩ := hrel
    by_cases hlt : k < l.length
    · obtain ⟨x, hx⟩ : ∃ x, l[k]? = some x := ⟨_, List.getElem?_eq_getElem hlt⟩
      obtain ⟨b, o, rfl, -, hbl, c0, c1⟩ := hat.out k x hx
      have k0 := jcell_later hX c0
      have k1 := jcell_later hX c1
      have hbr : b < wr.heap.size := block_lt_of_cell k0
      obtain ⟨z1, z2⟩ := (show -4294967296 ≤ z ∧ z ≤ 4294967296 by have := hz.out; rw [this]; exact jv_small hb.out hn.out k t)
      obtain ⟨n1, n2⟩ := hb.out x (List.mem_of_getElem? hx)
      have hnx := jv_next hx t
      rw [← hz.out] at hnx
      clear c0 c1 hx hz
      obtain ⟨xp, xn⟩ := x
      simp only at n1 n2 hnx k0 k1
      by_cases hle : xp ≤ t
      · rw [if_pos hle] at hnx
        replace hnx := hide hnx
        go_wp2_with fail
        go_roundg (l.length - (k + 1))
        case measure => omega
        case rel => exact ⟨k + 1, z + xn, by go_num, by go_num, by omega, hnx.out.symm, hX⟩
      · have d : decide (xp ≤ t) = false := by rw [decide_eq_false_iff_not]; exact hle
        rw [if_neg hle] at hnx
        replace hnx := hide hnx
        clear hle
        go_wp2_with fail
        go_roundg (l.length - (k + 1))
        case measure => omega
        case rel => exact ⟨k + 1, z, by go_num, rfl, by omega, hnx.out.symm, hX⟩
    · have hk' : k = l.length := by omega
      have hge : (l.length : Int) ≤ k := by omega
      have hR2 : Hid (R = z) := by show _ = _; have := hz.out; rw [hk', List.take_length] at this; rw [hR.out]; exact this.symm
      replace hk' := hide hk'
      clear hz hR
      go_wp2_with fail
      go_returns
      exact ⟨by rw [hR2.out]; rfl, hX⟩
set_option maxHeartbeats 4000000 in
set_option maxRecDepth 100000 in
theorem stepAt_c (l : List Jp) (t : Int) (v : Value) (w : World) (h : Jw w [] v l) : Calls Tryz.prog 110 #[v, .int .i64 t] w fun e w' => e = .returned (.int .i64 (atV l t)) ∧ Ext w w' := by
  have hm := hide (stepMay_c l v w h)
  obtain ⟨A, cap, rfl, hl, hmc, hat⟩ := jw_form h
  unfold maxLen at hmc
  replace hat := hide hat
  unfold atV
  clear h
  cases hb : mayJ l
  · rw [hb] at hm
    rw [if_neg (by decide)]
    replace hb := hide hb
    clear hat
    go_enter Tryz.func110, Tryz.ntmps110
    go_wp2_with (go_at_call 54; (with_reducible refine seq_gw hm.out ?_); intro g)
    go_returns
    exact ⟨rfl, g.grown⟩
  · rw [hb] at hm
    rw [if_pos rfl]
    have hnet := hide (mayJ_net hb)
    have hn := hide (show l.length ≤ 4096 by have := mayJ_len hb; omega)
    have hnI : (l.length : Int) ≤ 4096 := by have := hn.out; omega
    obtain ⟨R, hR⟩ : ∃ R, R = jv l t := ⟨_, rfl⟩
    rw [← hR]
    replace hR := hide hR
    replace hb := hide hb
    go_enter Tryz.func110, Tryz.ntmps110
    go_wp2_with (go_at_call 54; (with_reducible refine seq_gw hm.out ?_); intro g)
    go_loopg [5, 13] l.length (fun gh s i wr => ∃ (k : Nat) (z : Int), i = .int .i64 k ∧ s = .int .i64 z ∧ k + gh = l.length ∧ Hid (z = jv (l.take k) t) ∧ Ext w wr)
    case atStart => exact ⟨0, 0, rfl, rfl, by omega, rfl, g.grown⟩
    case round =>
      obtain ⟨k, z, rfl, rfl, hk, hz, hX⟩ := hrel
      by_cases hlt : k < l.length
      · obtain ⟨x, hx⟩ : ∃ x, l[k]? = some x := ⟨_, List.getElem?_eq_getElem hlt⟩
        obtain ⟨b, o, rfl, -, hbl, c0, c1⟩ := hat.out k x hx
        have k0 := jcell_later hX c0
        have k1 := jcell_later hX c1
        have hbr : b < wr.heap.size := block_lt_of_cell k0
        obtain ⟨z1, z2⟩ := (show -4294967296 ≤ z ∧ z ≤ 4294967296 by have := hz.out; rw [this]; exact jv_small hnet.out hn.out k t)
        obtain ⟨n1, n2⟩ := hnet.out x (List.mem_of_getElem? hx)
        have hnx := jv_next hx t
        rw [← hz.out] at hnx
        clear c0 c1 hx hz
        obtain ⟨xp, xn⟩ := x
        simp only at n1 n2 hnx k0 k1
        by_cases hle : xp ≤ t
        · rw [if_pos hle] at hnx
          replace hnx := hide hnx
          go_wp2_with fail
          go_roundg (l.length - (k + 1))
          case measure => omega
          case rel => exact ⟨k + 1, z + xn, by go_num, by go_num, by omega, hnx.out.symm, hX.alloc _⟩
        · have d : decide (xp ≤ t) = false := by rw [decide_eq_false_iff_not]; exact hle
          rw [if_neg hle] at hnx
          replace hnx := hide hnx
          clear hle
          go_wp2_with fail
          go_roundg (l.length - (k + 1))
          case measure => omega
          case rel => exact ⟨k + 1, z, by go_num, rfl, by omega, hnx.out.symm, hX.alloc _⟩
      · have hk' : k = l.length := by omega
        have hge : (l.length : Int) ≤ k := by omega
        have hR2 : Hid (R = z) := by show _ = _; have := hz.out; rw [hk', List.take_length] at this; rw [hR.out]; exact this.symm
        replace hk' := hide hk'
        clear hz hR
        go_wp2_with fail
        go_returns
        exact ⟨by rw [hR2.out]; rfl, hX⟩
theorem atV_of {l : List Jp} (h : mayJ l = true) (t : Int) : atV l t = jv l t := by unfold atV; rw [if_pos h]
theorem js_here {l : List Jp} (h : mayJ l = true) {k : Nat} {x : Jp} (hx : l[k]? = some x) : js (l.take (k + 1)) = jv l x.1 := by
  rw [take_snoc hx]
  have e : l = l.take k ++ x :: l.drop (k + 1) := by rw [← jdrop_cons hx, List.take_append_drop]
  have := js_at (f1 := l.take k) (f2 := l.drop (k + 1)) (j := x) (by rw [← e]; exact (mayJ_iff.1 h).2.2)
  rw [← e] at this
  exact this
theorem js_next {l : List Jp} {k : Nat} {x : Jp} (hx : l[k]? = some x) : js (l.take (k + 1)) = js (l.take k) + x.2 := by rw [take_snoc hx, js_snoc]
theorem le_next {l : List Jp} {k : Nat} {x : Jp} (m : Int) (hx : l[k]? = some x) : leF l m (l.take (k + 1)) = min (leF l m (l.take k)) (jv l x.1) := by rw [take_snoc hx, leF_snoc]
set_option maxHeartbeats 4000000 in
set_option maxRecDepth 100000 in
theorem stepLeast_c (l : List Jp) (v : Value) (w : World) (h : Jw w [] v l) : Calls Tryz.prog 61 #[v] w fun e w' => e = .returned (.int .i64 (leV l)) ∧ Ext w w' := by
  have hm := hide (stepMay_c l v w h)
  have ha := hide (fun w' (hX : Ext w w') => stepAt_c l (-1) v w' (Sl.ext h hX))
  obtain ⟨A, cap, rfl, hl, hmc, hat⟩ := jw_form h
  unfold maxLen at hmc
  replace hat := hide hat
  unfold leV
  clear h
  cases hb : mayJ l
  · rw [hb] at hm
    rw [if_neg (by decide)]
    replace hb := hide hb
    clear hat ha
    go_enter Tryz.func61, Tryz.ntmps61
    go_wp2_with (go_at_call 54; (with_reducible refine seq_gw hm.out ?_); intro g)
    go_returns
    exact ⟨rfl, g.grown⟩
  · rw [hb] at hm
    rw [if_pos rfl]
    rw [atV_of hb] at ha
    have hnet := hide (mayJ_net hb)
    have hn := hide (show l.length ≤ 4096 by have := mayJ_len hb; omega)
    have hnI : (l.length : Int) ≤ 4096 := by have := hn.out; omega
    obtain ⟨m0, hm0⟩ : ∃ m0, m0 = jv l (-1) := ⟨_, rfl⟩
    rw [← hm0] at ha ⊢
    obtain ⟨R, hR⟩ : ∃ R, R = leF l m0 l := ⟨_, rfl⟩
    rw [← hR]
    replace hR := hide hR
    replace hb := hide hb
    replace hm0 := hide hm0
    go_enter Tryz.func61, Tryz.ntmps61
    go_wp2_with (first | (go_at_call 54; (with_reducible refine seq_gw hm.out ?_); intro g) | (go_at_call 110; (with_reducible refine seq_gw' (ha.out _ g.grown) ?_); intro g2))
    go_loopg [3, 4, 14] l.length (fun gh m s i wr => ∃ (k : Nat) (y z : Int), i = .int .i64 k ∧ s = .int .i64 z ∧ m = .int .i64 y ∧ k + gh = l.length ∧ Hid (z = js (l.take k)) ∧ Hid (y = leF l m0 (l.take k)) ∧ Ext w wr)
    case atStart => exact ⟨0, m0, 0, rfl, rfl, rfl, by omega, rfl, rfl, g2.grown⟩
    case round =>
      clear ha
      obtain ⟨k, y, z, rfl, rfl, rfl, hk, hz, hy, hX⟩ := hrel
      by_cases hlt : k < l.length
      · obtain ⟨x, hx⟩ : ∃ x, l[k]? = some x := ⟨_, List.getElem?_eq_getElem hlt⟩
        obtain ⟨b, o, rfl, -, hbl, c0, c1⟩ := hat.out k x hx
        have k0 := jcell_later hX c0
        have k1 := jcell_later hX c1
        have hbr : b < wr.heap.size := block_lt_of_cell k0
        obtain ⟨z1, z2⟩ := (show -4294967296 ≤ z ∧ z ≤ 4294967296 by have := hz.out; rw [this]; exact js_small hnet.out hn.out k)
        obtain ⟨n1, n2⟩ := hnet.out x (List.mem_of_getElem? hx)
        have hnx := js_next hx
        rw [← hz.out] at hnx
        have hny := le_next m0 hx
        rw [← hy.out, ← js_here hb.out hx, hnx] at hny
        clear c0 c1 hx hz hy
        obtain ⟨xp, xn⟩ := x
        simp only at n1 n2 hnx hny k0 k1
        replace hnx := hide hnx
        by_cases hle : y ≤ z + xn
        · rw [Int.min_eq_left hle] at hny
          replace hny := hide hny
          have d1 : decide (z + xn < y) = false := by rw [decide_eq_false_iff_not]; omega
          go_wp2_with fail
          go_roundg (l.length - (k + 1))
          case measure => omega
          case rel => exact ⟨k + 1, y, z + xn, by go_num, by go_num, by simp [hle], by omega, hnx.out.symm, hny.out.symm, hX.alloc _⟩
        · have hle' : z + xn < y := by omega
          rw [Int.min_eq_right (by omega)] at hny
          replace hny := hide hny
          clear hle
          go_wp2_with fail
          go_roundg (l.length - (k + 1))
          case measure => omega
          case rel => exact ⟨k + 1, z + xn, z + xn, by go_num, by go_num, by simp [hle'], by omega, hnx.out.symm, hny.out.symm, hX.alloc _⟩
      · have hk' : k = l.length := by omega
        have hge : (l.length : Int) ≤ k := by omega
        have hR2 : Hid (R = y) := by show _ = _; have := hy.out; rw [hk', List.take_length] at this; rw [hR.out]; exact this.symm
        replace hk' := hide hk'
        clear hz hR hy
        go_wp2_with fail
        go_returns
        exact ⟨by rw [hR2.out]; rfl, hX⟩
end Go.Proofs.YtljkneajdndgjabGreat
