/-
  A helper of ours: no claim of its own. Layer 12 (bag): whether any edge is late, by the code.
-/
import Derived.Test.YtiknkcadbaeknaaGreatStepB
import Derived.Test.YtiknkcadbaeknaaGreatBagB
import Derived.Laws.BitsAllLaws
import Derived.Laws.Bits64b
import Derived.Laws.BitsLemmas
import Derived.Test.YtiknkcadbaeknaaGreatRows
import Derived.Test.YtiknkcadbaeknaaGreatMem
import Derived.Handy
import Derived.WalkSmall
import Derived.Test.YtiknkcadbaeknaaGreatRowA
import Derived.WalkSpells
import Derived.Deep.LoopGhost
import Derived.StringKeys

set_option linter.unusedVariables false
set_option linter.unusedSimpArgs false
namespace Go.Proofs.YtiknkcadbaeknaaGreat
open Go.RowKit
attribute [local go_sem] GW.cell GW.frozen In.eq_true In.le_true In.ne In.ne' In.ne_add In.ne_add' In.lt_add Upto.le_true Upto.le_add Upto.lt_add
theorem jv_small {l : List Jp} (hb : ∀ j ∈ l, -1048576 ≤ j.2 ∧ j.2 ≤ 1048576) (hn : l.length ≤ 4096) (k : Nat) (t : Int) : -4294967296 ≤ jv (l.take k) t ∧ jv (l.take k) t ≤ 4294967296 := by
  have h1 := jv_bound (K := 1048576) (by omega) (fun j hj => hb j (List.mem_of_mem_take hj)) t (f := l.take k)
  have h2 : (l.take k).length ≤ 4096 := by rw [List.length_take]; omega
  omega
theorem js_small {l : List Jp} (hb : ∀ j ∈ l, -1048576 ≤ j.2 ∧ j.2 ≤ 1048576) (hn : l.length ≤ 4096) (k : Nat) : -4294967296 ≤ js (l.take k) ∧ js (l.take k) ≤ 4294967296 := by
  have h1 := js_bound (K := 1048576) (by omega) (fun j hj => hb j (List.mem_of_mem_take hj)) (f := l.take k)
  have h2 : (l.take k).length ≤ 4096 := by rw [List.length_take]; omega
  omega
theorem jv_next {l : List Jp} {k : Nat} {x : Jp} (hx : l[k]? = some x) (t : Int) : jv (l.take (k + 1)) t = if x.1 ≤ t then jv (l.take k) t + x.2 else jv (l.take k) t := by
  rw [take_snoc hx, jv_snoc]; split <;> omega
set_option maxHeartbeats 4000000 in
set_option maxRecDepth 100000 in
theorem refValue_c (l : List Jp) (hb : ∀ j ∈ l, -1048576 ≤ j.2 ∧ j.2 ≤ 1048576) (hn : l.length ≤ 4096) (t : Int) (v : Value) (w : World) (h : Jw w [] v l) : Calls Tryz.prog 267 #[v, .int .i64 t] w fun e w' => e = .returned (.int .i64 (jv l t)) ∧ Ext w w' := by
  obtain ⟨A, cap, rfl, hl, hm, hat⟩ := jw_form h
  unfold maxLen at hm
  replace hat := hide hat
  clear h
  obtain ⟨R, hR⟩ : ∃ R, R = jv l t := ⟨_, rfl⟩
  rw [← hR]
  replace hR := hide hR
  have hnI : (l.length : Int) ≤ 4096 := by omega
  replace hn := hide hn
  replace hb := hide hb
  go_enter Tryz.func267, Tryz.ntmps267
  go_wp2_with fail
  go_loopg [5, 6] l.length (fun gh s i wr => ∃ (k : Nat) (z : Int), i = .int .i64 k ∧ s = .int .i64 z ∧ k + gh = l.length ∧ Hid (z = jv (l.take k) t) ∧ Ext w wr)
  case atStart => exact ⟨0, 0, rfl, rfl, by omega, rfl, Ext.refl w⟩
  case round =>
    obtain ⟨k, z, rfl, rfl, hk, hz, hX⟩ := hrel
    by_cases hlt : k < l.length
    · obtain ⟨x, hx⟩ : ∃ x, l[k]? = some x := ⟨_, List.getElem?_eq_getElem hlt⟩
      obtain ⟨b, o, rfl, -, hbl, c0, c1⟩ := hat.out k x hx
      have k0 := jcell_later hX c0
      have k1 := jcell_later hX c1
      have hbr : b < wr.heap.size := block_lt_of_cell k0
      obtain ⟨z1, z2⟩ := (show -4294967296 ≤ z ∧ z ≤ 4294967296 by have := hz.out; rw [this]; exact jv_small hb.out hn.out k t)
      obtain ⟨n1, n2⟩ := hb.out x (List.mem_of_getElem? hx)
      have hnx := jv_next hx t
      rw [← hz.out] at hnx
      clear c0 c1 hx hz
      obtain ⟨xp, xn⟩ := x
      simp only at n1 n2 hnx k0 k1
      by_cases hle : xp ≤ t
      · rw [if_pos hle] at hnx
        replace hnx := hide hnx
        go_wp2_with fail
        go_roundg (l.length - (k + 1))
        case measure => omega
        case rel => exact ⟨k + 1, z + xn, by go_num, by go_num, by omega, hnx.out.symm, hX⟩
      · have d : decide (xp ≤ t) = false := by rw [decide_eq_false_iff_not]; exact hle
        rw [if_neg hle] at hnx
        replace hnx := hide hnx
        clear hle
        go_wp2_with fail
        go_roundg (l.length - (k + 1))
        case measure => omega
        case rel => exact ⟨k + 1, z, by go_num, rfl, by omega, hnx.out.symm, hX⟩
    · have hk' : k = l.length := by omega
      have hge : (l.length : Int) ≤ k := by omega
      have hR2 : Hid (R = z) := by show _ = _; have := hz.out; rw [hk', List.take_length] at this; rw [hR.out]; exact this.symm
      replace hk' := hide hk'
      clear hz hR
      go_wp2_with fail
      go_returns
      exact ⟨by rw [hR2.out]; rfl, hX⟩
set_option maxHeartbeats 4000000 in
set_option maxRecDepth 100000 in
theorem stepAt_c (l : List Jp) (t : Int) (v : Value) (w : World) (h : Jw w [] v l) : Calls Tryz.prog 206 #[v, .int .i64 t] w fun e w' => e = .returned (.int .i64 (atV l t)) ∧ Ext w w' := by
  have hm := hide (stepMay_c l v w h)
  obtain ⟨A, cap, rfl, hl, hmc, hat⟩ := jw_form h
  unfold maxLen at hmc
  replace hat := hide hat
  unfold atV
  clear h
  cases hb : mayJ l
  · rw [hb] at hm
    rw [if_neg (by decide)]
    replace hb := hide hb
    clear hat
    go_enter Tryz.func206, Tryz.ntmps206
    go_wp2_with (go_at_call 130; (with_reducible refine seq_gw hm.out ?_); intro g)
    go_returns
    exact ⟨rfl, g.grown⟩
  · rw [hb] at hm
    rw [if_pos rfl]
    have hnet := hide (mayJ_net hb)
    have hn := hide (show l.length ≤ 4096 by have := mayJ_len hb; omega)
    have hnI : (l.length : Int) ≤ 4096 := by have := hn.out; omega
    obtain ⟨R, hR⟩ : ∃ R, R = jv l t := ⟨_, rfl⟩
    rw [← hR]
    replace hR := hide hR
    replace hb := hide hb
    go_enter Tryz.func206, Tryz.ntmps206
    go_wp2_with (go_at_call 130; (with_reducible refine seq_gw hm.out ?_); intro g)
    go_loopg [5, 13] l.length (fun gh s i wr => ∃ (k : Nat) (z : Int), i = .int .i64 k ∧ s = .int .i64 z ∧ k + gh = l.length ∧ Hid (z = jv (l.take k) t) ∧ Ext w wr)
    case atStart => exact ⟨0, 0, rfl, rfl, by omega, rfl, g.grown⟩
    case round =>
      obtain ⟨k, z, rfl, rfl, hk, hz, hX⟩ := hrel
      by_cases hlt : k < l.length
      · obtain ⟨x, hx⟩ : ∃ x, l[k]? = some x := ⟨_, List.getElem?_eq_getElem hlt⟩
        obtain ⟨b, o, rfl, -, hbl, c0, c1⟩ := hat.out k x hx
        have k0 := jcell_later hX c0
        have k1 := jcell_later hX c1
        have hbr : b < wr.heap.size := block_lt_of_cell k0
        obtain ⟨z1, z2⟩ := (show -4294967296 ≤ z ∧ z ≤ 4294967296 by have := hz.out; rw [this]; exact jv_small hnet.out hn.out k t)
        obtain ⟨n1, n2⟩ := hnet.out x (List.mem_of_getElem? hx)
        have hnx := jv_next hx t
        rw [← hz.out] at hnx
        clear c0 c1 hx hz
        obtain ⟨xp, xn⟩ := x
        simp only at n1 n2 hnx k0 k1
        by_cases hle : xp ≤ t
        · rw [if_pos hle] at hnx
          replace hnx := hide hnx
          go_wp2_with fail
          go_roundg (l.length - (k + 1))
          case measure => omega
          case rel => exact ⟨k + 1, z + xn, by go_num, by go_num, by omega, hnx.out.symm, hX.alloc _⟩
        · have d : decide (xp ≤ t) = false := by rw [decide_eq_false_iff_not]; exact hle
          rw [if_neg hle] at hnx
          replace hnx := hide hnx
          clear hle
          go_wp2_with fail
          go_roundg (l.length - (k + 1))
          case measure => omega
          case rel => exact ⟨k + 1, z, by go_num, rfl, by omega, hnx.out.symm, hX.alloc _⟩
      · have hk' : k = l.length := by omega
        have hge : (l.length : Int) ≤ k := by omega
        have hR2 : Hid (R = z) := by show _ = _; have := hz.out; rw [hk', List.take_length] at this; rw [hR.out]; exact this.symm
        replace hk' := hide hk'
        clear hz hR
        go_wp2_with fail
        go_returns
        exact ⟨by rw [hR2.out]; rfl, hX⟩
theorem atV_of {l : List Jp} (h : mayJ l = true) (t : Int) : atV l t = jv l t := by unfold atV; rw [if_pos h]
theorem js_here {l : List Jp} (h : mayJ l = true) {k : Nat} {x : Jp} (hx : l[k]? = some x) : js (l.take (k + 1)) = jv l x.1 := by
  rw [take_snoc hx]
  have e : l = l.take k ++ x :: l.drop (k + 1) := by rw [← jdrop_cons hx, List.take_append_drop]
  have := js_at (f1 := l.take k) (f2 := l.drop (k + 1)) (j := x) (by rw [← e]; exact (mayJ_iff.1 h).2.2)
  rw [← e] at this
  exact this
theorem js_next {l : List Jp} {k : Nat} {x : Jp} (hx : l[k]? = some x) : js (l.take (k + 1)) = js (l.take k) + x.2 := by rw [take_snoc hx, js_snoc]
theorem le_next {l : List Jp} {k : Nat} {x : Jp} (m : Int) (hx : l[k]? = some x) : leF l m (l.take (k + 1)) = min (leF l m (l.take k)) (jv l x.1) := by rw [take_snoc hx, leF_snoc]
set_option maxHeartbeats 4000000 in
set_option maxRecDepth 100000 in
theorem stepLeast_c (l : List Jp) (v : Value) (w : World) (h : Jw w [] v l) : Calls Tryz.prog 148 #[v] w fun e w' => e = .returned (.int .i64 (leV l)) ∧ Ext w w' := by
  have hm := hide (stepMay_c l v w h)
  have ha := hide (fun w' (hX : Ext w w') => stepAt_c l (-1) v w' (Sl.ext h hX))
  obtain ⟨A, cap, rfl, hl, hmc, hat⟩ := jw_form h
  unfold maxLen at hmc
  replace hat := hide hat
  unfold leV
  clear h
  cases hb : mayJ l
  · rw [hb] at hm
    rw [if_neg (by decide)]
    replace hb := hide hb
    clear hat ha
    go_enter Tryz.func148, Tryz.ntmps148
    go_wp2_with (go_at_call 130; (with_reducible refine seq_gw hm.out ?_); intro g)
    go_returns
    exact ⟨rfl, g.grown⟩
  · rw [hb] at hm
    rw [if_pos rfl]
    rw [atV_of hb] at ha
    have hnet := hide (mayJ_net hb)
    have hn := hide (show l.length ≤ 4096 by have := mayJ_len hb; omega)
    have hnI : (l.length : Int) ≤ 4096 := by have := hn.out; omega
    obtain ⟨m0, hm0⟩ : ∃ m0, m0 = jv l (-1) := ⟨_, rfl⟩
    rw [← hm0] at ha ⊢
    obtain ⟨R, hR⟩ : ∃ R, R = leF l m0 l := ⟨_, rfl⟩
    rw [← hR]
    replace hR := hide hR
    replace hb := hide hb
    replace hm0 := hide hm0
    go_enter Tryz.func148, Tryz.ntmps148
    go_wp2_with (first | (go_at_call 130; (with_reducible refine seq_gw hm.out ?_); intro g) | (go_at_call 206; (with_reducible refine seq_gw' (ha.out _ g.grown) ?_); intro g2))
    go_loopg [3, 4, 14] l.length (fun gh m s i wr => ∃ (k : Nat) (y z : Int), i = .int .i64 k ∧ s = .int .i64 z ∧ m = .int .i64 y ∧ k + gh = l.length ∧ Hid (z = js (l.take k)) ∧ Hid (y = leF l m0 (l.take k)) ∧ Ext w wr)
    case atStart => exact ⟨0, m0, 0, rfl, rfl, rfl, by omega, rfl, rfl, g2.grown⟩
    case round =>
      clear ha
      obtain ⟨k, y, z, rfl, rfl, rfl, hk, hz, hy, hX⟩ := hrel
      by_cases hlt : k < l.length
      · obtain ⟨x, hx⟩ : ∃ x, l[k]? = some x := ⟨_, List.getElem?_eq_getElem hlt⟩
        obtain ⟨b, o, rfl, -, hbl, c0, c1⟩ := hat.out k x hx
        have k0 := jcell_later hX c0
        have k1 := jcell_later hX c1
        have hbr : b < wr.heap.size := block_lt_of_cell k0
        obtain ⟨z1, z2⟩ := (show -4294967296 ≤ z ∧ z ≤ 4294967296 by have := hz.out; rw [this]; exact js_small hnet.out hn.out k)
        obtain ⟨n1, n2⟩ := hnet.out x (List.mem_of_getElem? hx)
        have hnx := js_next hx
        rw [← hz.out] at hnx
        have hny := le_next m0 hx
        rw [← hy.out, ← js_here hb.out hx, hnx] at hny
        clear c0 c1 hx hz hy
        obtain ⟨xp, xn⟩ := x
        simp only at n1 n2 hnx hny k0 k1
        replace hnx := hide hnx
        by_cases hle : y ≤ z + xn
        · rw [Int.min_eq_left hle] at hny
          replace hny := hide hny
          have d1 : decide (z + xn < y) = false := by rw [decide_eq_false_iff_not]; omega
          go_wp2_with fail
          go_roundg (l.length - (k + 1))
          case measure => omega
          case rel => exact ⟨k + 1, y, z + xn, by go_num, by go_num, by simp [hle], by omega, hnx.out.symm, hny.out.symm, hX.alloc _⟩
        · have hle' : z + xn < y := by omega
          rw [Int.min_eq_right (by omega)] at hny
          replace hny := hide hny
          clear hle
          go_wp2_with fail
          go_roundg (l.length - (k + 1))
          case measure => omega
          case rel => exact ⟨k + 1, z + xn, z + xn, by go_num, by go_num, by simp [hle'], by omega, hnx.out.symm, hny.out.symm, hX.alloc _⟩
      · have hk' : k = l.length := by omega
        have hge : (l.length : Int) ≤ k := by omega
        have hR2 : Hid (R = y) := by show _ = _; have := hy.out; rw [hk', List.take_length] at this; rw [hR.out]; exact this.symm
        replace hk' := hide hk'
        clear hz hR hy
        go_wp2_with fail
        go_returns
        exact ⟨by rw [hR2.out]; rfl, hX⟩
set_option maxHeartbeats 4000000 in
set_option maxRecDepth 100000 in
theorem refStepLeast_c (l : List Jp) (v : Value) (w : World) (h : Jw w [] v l) : Calls Tryz.prog 220 #[v] w fun e w' => e = .returned (.int .i64 (leV l)) ∧ Ext w w' := by
  have hm := hide (refStepMay_c l v w h)
  have hv := hide (fun (hb : ∀ j ∈ l, -1048576 ≤ j.2 ∧ j.2 ≤ 1048576) (hn : l.length ≤ 4096) t w' (hX : Ext w w') => refValue_c l hb hn t v w' (Sl.ext h hX))
  obtain ⟨A, cap, rfl, hl, hmc, hat⟩ := jw_form h
  unfold maxLen at hmc
  replace hat := hide hat
  unfold leV
  clear h
  cases hb : mayJ l
  · rw [hb] at hm
    rw [if_neg (by decide)]
    replace hb := hide hb
    clear hat hv
    go_enter Tryz.func220, Tryz.ntmps220
    go_wp2_with (go_at_call 218; (with_reducible refine seq_gw hm.out ?_); intro g)
    go_returns
    exact ⟨rfl, g.grown⟩
  · rw [hb] at hm
    rw [if_pos rfl]
    have hv' := hide (hv.out (mayJ_net hb) (by have := mayJ_len hb; omega))
    have hn := hide (show l.length ≤ 4096 by have := mayJ_len hb; omega)
    have hnI : (l.length : Int) ≤ 4096 := by have := hn.out; omega
    obtain ⟨m0, hm0⟩ : ∃ m0, m0 = jv l (-1) := ⟨_, rfl⟩
    have hv1 := hide (hv'.out (-1))
    rw [← hm0] at hv1 ⊢
    obtain ⟨R, hR⟩ : ∃ R, R = leF l m0 l := ⟨_, rfl⟩
    rw [← hR]
    replace hR := hide hR
    replace hb := hide hb
    replace hm0 := hide hm0
    clear hv
    go_enter Tryz.func220, Tryz.ntmps220
    go_wp2_with (first | (go_at_call 218; (with_reducible refine seq_gw hm.out ?_); intro g) | (go_at_call 267; (with_reducible refine seq_gw' (hv1.out _ g.grown) ?_); intro g2))
    go_loopg [3, 4] l.length (fun gh m i wr => ∃ (k : Nat) (y : Int), i = .int .i64 k ∧ m = .int .i64 y ∧ k + gh = l.length ∧ Hid (y = leF l m0 (l.take k)) ∧ Ext w wr)
    case atStart => exact ⟨0, m0, rfl, rfl, by omega, rfl, g2.grown⟩
    case round =>
      clear hv1
      obtain ⟨k, y, rfl, rfl, hk, hy, hX⟩ := hrel
      by_cases hlt : k < l.length
      · obtain ⟨x, hx⟩ : ∃ x, l[k]? = some x := ⟨_, List.getElem?_eq_getElem hlt⟩
        obtain ⟨b, o, rfl, -, hbl, c0, c1⟩ := hat.out k x hx
        have k0 := jcell_later hX c0
        have hbr : b < wr.heap.size := block_lt_of_cell k0
        haveI : In b wr := ⟨hbr⟩
        have hny := le_next m0 hx
        rw [← hy.out] at hny
        clear c0 c1 hx hy
        obtain ⟨xp, xn⟩ := x
        simp only at hny k0
        have hv2 := hide (hv'.out xp)
        obtain ⟨z, hz⟩ : ∃ z, z = jv l xp := ⟨_, rfl⟩
        rw [← hz] at hny hv2
        clear hz
        by_cases hle : z < y
        · rw [Int.min_eq_right (by omega)] at hny
          replace hny := hide hny
          go_wp2_with (go_at_call 267; (with_reducible first | (refine seq_gw (hv2.out _ hX) ?_) | (refine seq_gw' (hv2.out _ (hX.trans g5.grown)) ?_)); intro g5)
          go_roundg (l.length - (k + 1))
          case measure => omega
          case rel => exact ⟨k + 1, z, by go_num, rfl, by omega, hny.out.symm, hX.trans g5.grown⟩
        · have d : decide (z < y) = false := by rw [decide_eq_false_iff_not]; exact hle
          rw [Int.min_eq_left (by omega)] at hny
          replace hny := hide hny
          clear hle
          go_wp2_with (go_at_call 267; (with_reducible refine seq_gw (hv2.out _ hX) ?_); intro g5)
          go_roundg (l.length - (k + 1))
          case measure => omega
          case rel => exact ⟨k + 1, y, by go_num, rfl, by omega, hny.out.symm, hX.trans g5.grown⟩
      · have hk' : k = l.length := by omega
        have hge : (l.length : Int) ≤ k := by omega
        have hR2 : Hid (R = y) := by show _ = _; have := hy.out; rw [hk', List.take_length] at this; rw [hR.out]; exact this.symm
        replace hk' := hide hk'
        clear hR hy
        go_wp2_with fail
        go_returns
        exact ⟨by rw [hR2.out]; rfl, hX⟩
end Go.Proofs.YtiknkcadbaeknaaGreat
set_option linter.unusedVariables false
set_option linter.unusedSimpArgs false
namespace Go.Proofs.YtiknkcadbaeknaaGreat
open Go.RowKit
attribute [local go_sem] GW.cell GW.frozen In.eq_true In.le_true In.ne In.ne' In.ne_add In.ne_add' In.lt_add Upto.le_true Upto.le_add Upto.lt_add
def belT (T : List Fe) : Bool := T.any fun p => decide (leV p.2.2.2 < 0)
end Go.Proofs.YtiknkcadbaeknaaGreat
set_option linter.unusedVariables false
set_option linter.unusedSimpArgs false
namespace Go.Proofs.YtiknkcadbaeknaaGreat
open Go.RowKit
attribute [local go_sem] GW.cell GW.frozen In.eq_true In.le_true In.ne In.ne' In.ne_add In.ne_add' In.lt_add Upto.le_true Upto.le_add Upto.lt_add
/-- A bag's entries with those of D in place. -/
def updT (kf : List Vl → List UInt8) (T D : List Fe) : List Fe := (T.filter fun q => !D.any fun p => (fent kf q).1.sameKey (fent kf p).1) ++ D.filter fun p => !p.2.2.2.isEmpty
section
variable {kf : List Vl → List UInt8} {T D : List Fe} {p : Fe}
end
end Go.Proofs.YtiknkcadbaeknaaGreat
set_option linter.unusedVariables false
set_option linter.unusedSimpArgs false
namespace Go.Proofs.YtiknkcadbaeknaaGreat
open Go.RowKit
attribute [local go_sem] GW.cell GW.frozen In.eq_true In.le_true In.ne In.ne' In.ne_add In.ne_add' In.lt_add Upto.le_true Upto.le_add Upto.lt_add
attribute [-go_sem] sliced
attribute [local go_sem] sliced_eq
theorem ps_take (l : List Jp) : ∀ n, (ps l).take (n * 2) = ps (l.take n) := by
  induction l with
  | nil => intro n; simp [ps]
  | cons p r ih =>
    intro n
    rcases n with _ | n
    · simp [ps]
    · rw [show (n + 1) * 2 = n * 2 + 1 + 1 by omega]
      simpa [ps] using ih n
theorem src_jmpAt {P : Program} {tx e' : TypeId} (hk : P.underlying tx = some (.slice e')) (w : World) (B : Nat) (hB : B = w.heap.size) (x : Jp) (E : TypeId) : Src P 2 tx (.slice (some ⟨B, 0, none⟩) 1 1) 1 (ps [x]) (w.alloc (.cells #[.int .i64 x.1, .int .i64 x.2] E)) := by
  subst hB; exact src_jmp hk w x E
end Go.Proofs.YtiknkcadbaeknaaGreat
set_option linter.unusedVariables false
set_option linter.unusedSimpArgs false
namespace Go.Proofs.YtiknkcadbaeknaaGreat
open Go.RowKit
attribute [local go_sem] GW.cell GW.frozen In.eq_true In.le_true In.ne In.ne' In.ne_add In.ne_add' In.lt_add Upto.le_true Upto.le_add Upto.lt_add
def restG (t : Int) (g : Gp) : Gp := (g.1, reR g.2 t)
end Go.Proofs.YtiknkcadbaeknaaGreat
namespace Go.Proofs.YtiknkcadbaeknaaGreat
end Go.Proofs.YtiknkcadbaeknaaGreat
set_option linter.unusedVariables false
set_option linter.unusedSimpArgs false
namespace Go.Proofs.YtiknkcadbaeknaaGreat
open Go.RowKit
attribute [local go_sem] GW.cell GW.frozen In.eq_true In.le_true In.ne In.ne' In.ne_add In.ne_add' In.lt_add Upto.le_true Upto.le_add Upto.lt_add
/-- A number's groups, the lowest first. -/
def grb (n : Nat) : List UInt8 := if h : n < 128 then [UInt8.ofNat n] else UInt8.ofNat (n % 128 + 128) :: grb (n / 128)
termination_by n
decreasing_by omega
/-- The place of a number among those of both signs. -/
def zz (n : Int) : Int := if n < 0 then 2 * (-1 - n) + 1 else 2 * n
def numB (n : Int) : List UInt8 := if n < 0 then [] else grb n.toNat
def intB (n : Int) : List UInt8 := grb (zz n).toNat
def textB (l : List UInt8) : List UInt8 := grb l.length ++ l
end Go.Proofs.YtiknkcadbaeknaaGreat
namespace Go.Proofs.YtiknkcadbaeknaaGreat

/-- How many bytes there are ahead of the first one that no other follows. -/
def lead : List UInt8 → Nat
  | [] => 0
  | c :: r => if 128 ≤ c.toNat then lead r + 1 else 0
def gval : List UInt8 → Nat
  | [] => 0
  | c :: r => c.toNat % 128 + 128 * gval r
def parE (most : Nat) (l : List UInt8) : Int :=
  if most ≤ lead l then 4 else if l.length ≤ lead l then 5 else if lead l = 9 ∧ 1 < (l.getD (lead l) 0).toNat then 4 else if 0 < lead l ∧ (l.getD (lead l) 0).toNat = 0 then 4 else 0
def parV (most : Nat) (l : List UInt8) : Nat := if parE most l = 0 then gval (l.take (lead l + 1)) else 0
def parR (most : Nat) (l : List UInt8) : List UInt8 := if parE most l = 0 then l.drop (lead l + 1) else []

/-- The first k bytes are each followed by another one. -/
def Led (l : List UInt8) (k : Nat) : Prop := k ≤ l.length ∧ ∀ j c, j < k → l[j]? = some c → 128 ≤ c.toNat
section
variable {l : List UInt8} {k most : Nat}
end
/-- The number of a place among those of both signs. -/
def unz (n : Nat) : Int := if n % 2 = 1 then -1 - (n / 2 : Nat) else (n / 2 : Nat)

/-- What a reader has left, and its first error, behind each element. -/
def numSt (most : Nat) (l : List UInt8) (e : Int) : List UInt8 × Int := if e = 0 then (parR most l, parE most l) else (l, e)
def numVal (most : Nat) (l : List UInt8) (e : Int) : Nat := if e = 0 then parV most l else 0
def byteSt (l : List UInt8) (e : Int) : List UInt8 × Int := if e = 0 then (if l = [] then ([], 5) else (l.tail, 0)) else (l, e)
def byteVal (l : List UInt8) (e : Int) : UInt8 := if e = 0 then l.headD 0 else 0
def textE (most : Int) (l : List UInt8) (e : Int) : Int :=
  if (numSt 9 l e).2 ≠ 0 then (numSt 9 l e).2 else if most < (numVal 9 l e : Int) then 6 else if (numSt 9 l e).1.length < numVal 9 l e then 5 else 0
def textSt (most : Int) (l : List UInt8) (e : Int) : List UInt8 × Int :=
  if textE most l e = 0 then ((numSt 9 l e).1.drop (numVal 9 l e), 0) else if e = 0 then ([], textE most l e) else (l, e)
def textVal (most : Int) (l : List UInt8) (e : Int) : List UInt8 := if textE most l e = 0 then (numSt 9 l e).1.take (numVal 9 l e) else []
/-- What is left of the bytes, whether they are a number or not. -/
def parL (most : Nat) (l : List UInt8) : List UInt8 := l.drop (if most ≤ lead l then most else lead l + 1)
/-- What a reader is behind an error. -/
def failSt (l : List UInt8) (e x : Int) : List UInt8 × Int := if e = 0 ∧ x ≠ 0 then ([], x) else (l, e)
section
variable {l : List UInt8} {k : Nat} {c : UInt8}
end
section
variable {l l1 : List UInt8} {e e1 most : Int}
end
end Go.Proofs.YtiknkcadbaeknaaGreat
set_option linter.unusedVariables false
set_option linter.unusedSimpArgs false
namespace Go.Proofs.YtiknkcadbaeknaaGreat

end Go.Proofs.YtiknkcadbaeknaaGreat
set_option linter.unusedVariables false
set_option linter.unusedSimpArgs false
namespace Go.Proofs.YtiknkcadbaeknaaGreat
open Go.RowKit
attribute [local go_sem] GW.cell GW.frozen In.eq_true In.le_true In.ne In.ne' In.ne_add In.ne_add' In.lt_add Upto.le_true Upto.le_add Upto.lt_add
/-- A value's bytes. -/
def valB (a : Vl) : List UInt8 := if may a then (if a.1 = 1 then 1 :: intB a.2.1 else 2 :: textB a.2.2.data.toList) else []
end Go.Proofs.YtiknkcadbaeknaaGreat
set_option linter.unusedVariables false
set_option linter.unusedSimpArgs false
namespace Go.Proofs.YtiknkcadbaeknaaGreat
open Go.RowKit
attribute [local go_sem] GW.cell GW.frozen In.eq_true In.le_true In.ne In.ne' In.ne_add In.ne_add' In.lt_add Upto.le_true Upto.le_add Upto.lt_add
attribute [-go_sem] sliced
attribute [local go_sem] sliced_eq

end Go.Proofs.YtiknkcadbaeknaaGreat
set_option linter.unusedVariables false
set_option linter.unusedSimpArgs false
namespace Go.Proofs.YtiknkcadbaeknaaGreat
open Go.RowKit
attribute [local go_sem] GW.cell GW.frozen In.eq_true In.le_true In.ne In.ne' In.ne_add In.ne_add' In.lt_add Upto.le_true Upto.le_add Upto.lt_add
attribute [-go_sem] sliced
attribute [local go_sem] sliced_eq


end Go.Proofs.YtiknkcadbaeknaaGreat
set_option linter.unusedVariables false
set_option linter.unusedSimpArgs false
namespace Go.Proofs.YtiknkcadbaeknaaGreat
open Go.RowKit
attribute [local go_sem] GW.cell GW.frozen In.eq_true In.le_true In.ne In.ne' In.ne_add In.ne_add' In.lt_add Upto.le_true Upto.le_add Upto.lt_add
attribute [-go_sem] sliced
attribute [local go_sem] sliced_eq

def manyN (most : Nat) (l : List UInt8) : Nat := if parE most l = 0 then lead l + 1 else 0
end Go.Proofs.YtiknkcadbaeknaaGreat
set_option linter.unusedVariables false
set_option linter.unusedSimpArgs false
namespace Go.Proofs.YtiknkcadbaeknaaGreat
open Go.RowKit
end Go.Proofs.YtiknkcadbaeknaaGreat
set_option linter.unusedVariables false
set_option linter.unusedSimpArgs false
namespace Go.Proofs.YtiknkcadbaeknaaGreat
open Go.RowKit
attribute [local go_sem] GW.cell GW.frozen In.eq_true In.le_true In.ne In.ne' In.ne_add In.ne_add' In.lt_add Upto.le_true Upto.le_add Upto.lt_add
/-- What is wrong with the bytes of a value; what is left behind; what the value is. -/
def rdE : List UInt8 → Int
  | [] => 5
  | c :: r => if c.toNat = 1 then (numSt 10 r 0).2 else if c.toNat = 2 then (textSt 64 r 0).2 else 4
def rdS : List UInt8 → List UInt8 × Int
  | [] => ([], 5)
  | c :: r => if c.toNat = 1 then numSt 10 r 0 else if c.toNat = 2 then textSt 64 r 0 else (r, 0)
def rdV (l : List UInt8) : Vl :=
  if rdE l = 0 then (match l with
    | [] => (0, 0, ⟨#[]⟩)
    | c :: r => if c.toNat = 1 then (1, unz (numVal 10 r 0), ⟨#[]⟩) else (2, 0, ⟨(textVal 64 r 0).toArray⟩))
  else (0, 0, ⟨#[]⟩)
abbrev zv : List Value := [.int .i64 0, .int .i64 0, .string ⟨#[]⟩]
/-- The next value. -/
def vl (a : Vl) : Value := val a.1 a.2.1 a.2.2
end Go.Proofs.YtiknkcadbaeknaaGreat
set_option linter.unusedVariables false
set_option linter.unusedSimpArgs false
namespace Go.Proofs.YtiknkcadbaeknaaGreat
open Go.RowKit
end Go.Proofs.YtiknkcadbaeknaaGreat
set_option linter.unusedVariables false
set_option linter.unusedSimpArgs false
namespace Go.Proofs.YtiknkcadbaeknaaGreat
open Go.RowKit
/-- Values, one behind the other. -/
def valsB (l : List Vl) : List UInt8 := l.flatMap valB
/-- A row's bytes. -/
def rowB (l : List Vl) : List UInt8 := if mayR l then UInt8.ofNat l.length :: valsB l else []
/-- n values, one after another: what is wrong; what is left behind; the values. -/
def rsE : Nat → List UInt8 → Int
  | 0, _ => 0
  | n + 1, l => if rdE l = 0 then rsE n (rdS l).1 else rdE l
def rsS : Nat → List UInt8 → List UInt8 × Int
  | 0, l => (l, 0)
  | n + 1, l => if rdE l = 0 then rsS n (rdS l).1 else rdS l
def rsV : Nat → List UInt8 → List Vl
  | 0, _ => []
  | n + 1, l => rdV l :: rsV n (rdS l).1
/-- A row. -/
def rwE : List UInt8 → Int
  | [] => 5
  | c :: r => if 8 < c.toNat then 4 else rsE c.toNat r
def rwS : List UInt8 → List UInt8 × Int
  | [] => ([], 5)
  | c :: r => if 8 < c.toNat then (r, 0) else rsS c.toNat r
def rwV (l : List UInt8) : List Vl := if rwE l = 0 then (match l with
  | [] => []
  | c :: r => rsV c.toNat r) else []
end Go.Proofs.YtiknkcadbaeknaaGreat
set_option linter.unusedVariables false
set_option linter.unusedSimpArgs false
namespace Go.Proofs.YtiknkcadbaeknaaGreat
open Go.RowKit
attribute [local go_sem] GW.cell GW.frozen In.eq_true In.le_true In.ne In.ne' In.ne_add In.ne_add' In.lt_add Upto.le_true Upto.le_add Upto.lt_add
end Go.Proofs.YtiknkcadbaeknaaGreat
set_option linter.unusedVariables false
set_option linter.unusedSimpArgs false
namespace Go.Proofs.YtiknkcadbaeknaaGreat
open Go.RowKit
attribute [local go_sem] GW.cell GW.frozen In.eq_true In.le_true In.ne In.ne' In.ne_add In.ne_add' In.lt_add Upto.le_true Upto.le_add Upto.lt_add
def jmpAt (T : List Fe) (r : List Vl) : List Jp := match getM (fent rowB) T (.string (rowB r)) with
  | some q => q.2.2.2
  | none => []
end Go.Proofs.YtiknkcadbaeknaaGreat
set_option linter.unusedVariables false
namespace Go.Proofs.YtiknkcadbaeknaaGreat
def idxP {α : Type} (p : α → Bool) : Nat → List α → Int
  | _, [] => -1
  | k, x :: r => if p x then idxP p (k + 1) r else k
theorem idxP_yes {α : Type} {p : α → Bool} {k : Nat} {x : α} {r : List α} (h : p x = true) : idxP p k (x :: r) = idxP p (k + 1) r := by
  show (if p x then _ else _) = _
  rw [h]; rfl
theorem idxP_no {α : Type} {p : α → Bool} {k : Nat} {x : α} {r : List α} (h : p x = false) : idxP p k (x :: r) = k := by
  show (if p x then _ else _) = _
  rw [h]; rfl
theorem idxP_ge {α : Type} (p : α → Bool) : ∀ (k : Nat) (l : List α), decide ((0 : Int) ≤ idxP p k l) = !l.all p
  | _, [] => rfl
  | k, x :: r => by
    rw [List.all_cons]
    cases h : p x
    · rw [idxP_no h]; simp
    · rw [idxP_yes h, Bool.true_and]; exact idxP_ge p (k + 1) r
/-- Are two lists of one length, and does a test hold pair by pair? -/
def eqP {α β : Type} (p : α → β → Bool) : List α → List β → Bool
  | [], [] => true
  | x :: a, y :: b => p x y && eqP p a b
  | [], _ :: _ => false
  | _ :: _, [] => false
theorem eqP_yes {α β : Type} {p : α → β → Bool} {x : α} {y : β} {a : List α} {b : List β} (h : p x y = true) : eqP p (x :: a) (y :: b) = eqP p a b := by
  show (p x y && eqP p a b) = _
  rw [h, Bool.true_and]
theorem eqP_no {α β : Type} {p : α → β → Bool} {x : α} {y : β} {a : List α} {b : List β} (h : p x y = false) : eqP p (x :: a) (y :: b) = false := by
  show (p x y && eqP p a b) = _
  rw [h, Bool.false_and]
theorem eqP_len {α β : Type} {p : α → β → Bool} : ∀ {a : List α} {b : List β}, a.length ≠ b.length → eqP p a b = false
  | [], [], h => absurd rfl h
  | [], _ :: _, _ => rfl
  | _ :: _, [], _ => rfl
  | x :: a, y :: b, h => by
    show (p x y && eqP p a b) = _
    rw [eqP_len (a := a) (b := b) (fun e => h (by simp [e])), Bool.and_false]
end Go.Proofs.YtiknkcadbaeknaaGreat
set_option linter.unusedVariables false
set_option linter.unusedSimpArgs false
namespace Go.Proofs.YtiknkcadbaeknaaGreat
open Go.RowKit
attribute [local go_sem] GW.cell GW.frozen In.eq_true In.le_true In.ne In.ne' In.ne_add In.ne_add' In.lt_add Upto.le_true Upto.le_add Upto.lt_add
def ltP (mk : Int) (j : Jp) : Bool := decide (j.1 < mk)
end Go.Proofs.YtiknkcadbaeknaaGreat
