/-
  A helper of ours: no claim of its own. Layer 9 (step): values of step functions, on both sides.
-/
import Derived.Test.YtjmoifbajjemmaaGreatStepB
set_option linter.unusedVariables false
set_option linter.unusedSimpArgs false
namespace Go.Proofs.YtjmoifbajjemmaaGreat
open Go.RowKit
attribute [local go_sem] GW.cell GW.frozen In.eq_true In.le_true In.ne In.ne' In.ne_add In.ne_add' In.lt_add Upto.le_true Upto.le_add Upto.lt_add
theorem jv_small {l : List Jp} (hb : ∀ j ∈ l, -1048576 ≤ j.2 ∧ j.2 ≤ 1048576) (hn : l.length ≤ 4096) (k : Nat) (t : Int) : -4294967296 ≤ jv (l.take k) t ∧ jv (l.take k) t ≤ 4294967296 := by
  have h1 := jv_bound (K := 1048576) (by omega) (fun j hj => hb j (List.mem_of_mem_take hj)) t (f := l.take k)
  have h2 : (l.take k).length ≤ 4096 := by rw [List.length_take]; omega
  omega
theorem js_small {l : List Jp} (hb : ∀ j ∈ l, -1048576 ≤ j.2 ∧ j.2 ≤ 1048576) (hn : l.length ≤ 4096) (k : Nat) : -4294967296 ≤ js (l.take k) ∧ js (l.take k) ≤ 4294967296 := by
  have h1 := js_bound (K := 1048576) (by omega) (fun j hj => hb j (List.mem_of_mem_take hj)) (f := l.take k)
  have h2 : (l.take k).length ≤ 4096 := by rw [List.length_take]; omega
  omega
theorem jv_next {l : List Jp} {k : Nat} {x : Jp} (hx : l[k]? = some x) (t : Int) : jv (l.take (k + 1)) t = if x.1 ≤ t then jv (l.take k) t + x.2 else jv (l.take k) t := by
  rw [take_snoc hx, jv_snoc]; split <;> omega
set_option maxHeartbeats 4000000 in
set_option maxRecDepth 100000 in
theorem refValue_c (l : List Jp) (hb : ∀ j ∈ l, -1048576 ≤ j.2 ∧ j.2 ≤ 1048576) (hn : l.length ≤ 4096) (t : Int) (v : Value) (w : World) (h : Jw w [] v l) : Calls Tryz.prog 97 #[v, .int .i64 t] w fun e w' => e = .returned (.int .i64 (jv l t)) ∧ Ext w w' := by
  obtain ⟨A, cap, rfl, hl, hm, hat⟩ := jw_form h
  unfold maxLen at hm
  replace hat := hide hat
  clear h
  obtain ⟨R, hR⟩ : ∃ R, R = jv l t := ⟨_, rfl⟩
  rw [← hR]
  replace hR := hide hR
  have hnI : (l.length : Int) ≤ 4096 := by omega
  replace hn := hide hn
  replace hb := hide hb
  go_enter Tryz.func97, Tryz.ntmps97
  go_wp2_with fail
  go_loopg [5, 6] l.length (fun gh s i wr => ∃ (k : Nat) (z : Int), i = .int .i64 k ∧ s = .int .i64 z ∧ k + gh = l.length ∧ Hid (z = jv (l.take k) t) ∧ Ext w wr)
  case atStart => exact ⟨0, 0, rfl, rfl, by omega, rfl, Ext.refl w⟩
  case round =>
    obtain ⟨k, z, rfl, rfl, hk, hz, hX⟩ := hrel
    by_cases hlt : k < l.length
    · obtain ⟨x, hx⟩ : ∃ x, l[k]? = some x := ⟨_, List.getElem?_eq_getElem hlt⟩
      obtain ⟨b, o, rfl, -, hbl, c0, c1⟩ := hat.out k x hx
      have k0 := jcell_later hX c0
      have k1 := jcell_later hX c1
      have hbr : b < wr.heap.size := block_lt_of_cell k0
      obtain ⟨z1, z2⟩ := (show -4294967296 ≤ z ∧ z ≤ 4294967296 by have := hz.out; rw [this]; exact jv_small hb.out hn.out k t)
      obtain ⟨n1, n2⟩ := hb.out x (List.mem_of_getElem? hx)
      have hnx := jv_next hx t
      rw [← hz.out] at hnx
      clear c0 c1 hx hz
      obtain ⟨xp, xn⟩ := x
      simp only at n1 n2 hnx k0 k1
      by_cases hle : xp ≤ t
      · rw [if_pos hle] at hnx
        replace hnx := hide hnx
        go_wp2_with fail
        go_roundg (l.length - (k + 1))
        case measure => omega
        case rel => exact ⟨k + 1, z + xn, by go_num, by go_num, by omega, hnx.out.symm, hX⟩
      · have d : decide (xp ≤ t) = false := by rw [decide_eq_false_iff_not]; exact hle
        rw [if_neg hle] at hnx
        replace hnx := hide hnx
        clear hle
        go_wp2_with fail
        go_roundg (l.length - (k + 1))
        case measure => omega
        case rel => exact ⟨k + 1, z, by go_num, rfl, by omega, hnx.out.symm, hX⟩
    · have hk' : k = l.length := by omega
      have hge : (l.length : Int) ≤ k := by omega
      have hR2 : Hid (R = z) := by show _ = _; have := hz.out; rw [hk', List.take_length] at this; rw [hR.out]; exact this.symm
      replace hk' := hide hk'
      clear hz hR
      go_wp2_with fail
      go_returns
      exact ⟨by rw [hR2.out]; rfl, hX⟩
theorem atV_of {l : List Jp} (h : mayJ l = true) (t : Int) : atV l t = jv l t := by unfold atV; rw [if_pos h]
theorem js_here {l : List Jp} (h : mayJ l = true) {k : Nat} {x : Jp} (hx : l[k]? = some x) : js (l.take (k + 1)) = jv l x.1 := by
  rw [take_snoc hx]
  have e : l = l.take k ++ x :: l.drop (k + 1) := by rw [← jdrop_cons hx, List.take_append_drop]
  have := js_at (f1 := l.take k) (f2 := l.drop (k + 1)) (j := x) (by rw [← e]; exact (mayJ_iff.1 h).2.2)
  rw [← e] at this
  exact this
theorem js_next {l : List Jp} {k : Nat} {x : Jp} (hx : l[k]? = some x) : js (l.take (k + 1)) = js (l.take k) + x.2 := by rw [take_snoc hx, js_snoc]
theorem le_next {l : List Jp} {k : Nat} {x : Jp} (m : Int) (hx : l[k]? = some x) : leF l m (l.take (k + 1)) = min (leF l m (l.take k)) (jv l x.1) := by rw [take_snoc hx, leF_snoc]
theorem leF_range {l : List Jp} (h : mayJ l = true) (g : List Jp) : -1073741824 ≤ leF l (jv l (-1)) g ∧ leF l (jv l (-1)) g ≤ 1073741824 := by
  have h0 := mayJ_jv h
  suffices H : ∀ (g : List Jp) (m : Int), -1073741824 ≤ m → m ≤ 1073741824 → -1073741824 ≤ leF l m g ∧ leF l m g ≤ 1073741824 from H g _ (h0 _).1 (h0 _).2
  intro g
  induction g with
  | nil => intro m h1 h2; exact ⟨h1, h2⟩
  | cons a r ih => intro m h1 h2; have := h0 a.1; exact ih (min m (jv l a.1)) (by omega) (by omega)
end Go.Proofs.YtjmoifbajjemmaaGreat
