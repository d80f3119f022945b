/-
  A helper of ours: no claim of its own. Layer 7 (schema): what is a schema, by the document; which rows fit, on both sides.
-/
import Derived.Test.YtajelkkiijdegaaGreatSchE
set_option linter.unusedVariables false
set_option linter.unusedSimpArgs false
namespace Go.Proofs.YtajelkkiijdegaaGreat
open Go.RowKit
attribute [local go_sem] GW.cell GW.frozen In.eq_true In.le_true In.ne In.ne' In.ne_add In.ne_add' In.lt_add Upto.le_true Upto.le_add Upto.lt_add
set_option maxHeartbeats 4000000 in
set_option maxRecDepth 100000 in
theorem refMayS_c (l : List Cl) (v : Value) (w : World) (h : Cw w [] v l) : Calls Tryz.prog 38 #[v] w fun e w' => e = .returned (.bool (mayS l)) ∧ Ext w w' := by
  obtain ⟨A, cap, rfl, hl, hm, hat⟩ := cw_form h
  unfold maxLen at hm
  replace hat := hide hat
  clear h
  by_cases h0 : l.length = 0
  · have e : mayS l = false := by unfold mayS; rw [decide_eq_false (by omega), Bool.false_and]
    rw [e]
    have h0I : (l.length : Int) = 0 := by omega
    clear e
    replace h0 := hide h0
    go_enter Tryz.func38, Tryz.ntmps38
    go_wp2_with fail
    go_returns
    exact ⟨rfl, Ext.refl w⟩
  have h0I : ((l.length : Int) == 0) = false := by rw [beq_eq_false_iff_ne]; omega
  by_cases h8 : l.length ≤ 8
  · obtain ⟨R, hR⟩ : ∃ R, R = mayS l := ⟨_, rfl⟩
    rw [← hR]
    have h8' : (l.length : Int) ≤ 8 := by omega
    have hR1 : Hid (∀ c ∈ l, okC c = false → R = false) := fun c hc h => by
      rw [hR, ← Bool.not_eq_true, mayS_iff]; rintro ⟨-, h2, -⟩; rw [h2 c hc] at h; cases h
    have hR2 : Hid (¬ Apart l l.length → R = false) := fun h => by rw [hR, ← Bool.not_eq_true, mayS_iff]; exact fun h3 => h h3.2.2
    have hR3 : Hid ((∀ c ∈ l, okC c = true) → Apart l l.length → R = true) := fun h1 h2 => by rw [hR, mayS_iff]; exact ⟨⟨by omega, h8⟩, h1, h2⟩
    clear hR h0
    go_enter Tryz.func38, Tryz.ntmps38
    go_wp2_with fail
    go_loopg [3] l.length (fun gh i wr => ∃ (k : Nat), i = .int .i64 k ∧ k + gh = l.length ∧ Hid (∀ c ∈ l.take k, okC c = true) ∧ Hid (Apart l k) ∧ Ext w wr)
    case atStart => exact ⟨0, rfl, by omega, by intro y hy; simp at hy, apart_zero l, Ext.refl w⟩
    case round =>
      obtain ⟨k, rfl, hk, hT, hA, hX⟩ := hrel
      by_cases hlt : k < l.length
      · obtain ⟨x, hx⟩ : ∃ x, l[k]? = some x := ⟨_, List.getElem?_eq_getElem hlt⟩
        obtain ⟨b, o, rfl, -, hb, c0, c1⟩ := hat.out k x hx
        have k0 := cell_later hX c0
        have k1 := cell_later hX c1
        have hbr : b < wr.heap.size := block_lt_of_cell k0
        have hin := hide (fun w => refName_c x.1 w)
        have hbad := hide (hR1.out x (List.mem_of_getElem? hx))
        have hx' := hide hx
        obtain ⟨xn, xk⟩ := x
        have hok : okC (xn, xk) = (decide (xk = 1 ∨ xk = 2) && nameB xn) := rfl
        rw [hok] at hbad
        have hxok : Hid (nameB xn = true → (xk = 1 ∨ xk = 2) → ∀ c ∈ l.take (k + 1), okC c = true) := fun h1 h2 c hc => by
          rw [List.take_add_one, hx] at hc
          rcases List.mem_append.1 hc with hc | hc
          · exact hT.out c hc
          · obtain rfl : c = (xn, xk) := by simpa using hc
            rw [hok, h1, decide_eq_true h2]; rfl
        clear c0 c1 hx hok
        simp only at hin
        generalize nameB xn = nb at *
        cases nb
        · have hf := hide (hbad.out (by rw [Bool.and_false]))
          clear hxok hbad
          go_wp2_with (go_at_call 83; (with_reducible refine seq_gw (hin.out _) ?_); intro g)
          go_returns
          exact ⟨by rw [hf.out]; rfl, hX.trans g.grown⟩
        by_cases hk12 : ¬ (xk = 1 ∨ xk = 2)
        · have hf := hide (hbad.out (by rw [decide_eq_false hk12, Bool.false_and]))
          have b1 : (xk != 1) = true := by rw [bne_iff_ne]; exact fun e => hk12 (.inl e)
          have b2 : (xk != 2) = true := by rw [bne_iff_ne]; exact fun e => hk12 (.inr e)
          clear hxok hbad hk12
          haveI : In b wr := ⟨hbr⟩
          go_wp2_with (go_at_call 83; (with_reducible refine seq_gw (hin.out _) ?_); intro g)
          go_returns
          exact ⟨by rw [hf.out]; rfl, hX.trans g.grown⟩
        replace hk12 := Classical.not_not.1 hk12
        replace hxok := hide (hxok.out rfl hk12)
        clear hbad
        haveI : In b wr := ⟨hbr⟩
        cases b1 : (xk != 1)
        · clear hk12
          go_wp2_with (go_at_call 83; (with_reducible refine seq_gw (hin.out _) ?_); intro g)
          have hXg := hide (hX.trans g.grown)
          go_loopg [4] k (fun gh2 i2 wr2 => ∃ (j : Nat), i2 = .int .i64 j ∧ j + gh2 = k ∧ Hid (∀ d ∈ l.take j, d.1 ≠ xn) ∧ Ext w wr2)
          case atStart => exact ⟨0, rfl, by omega, by intro y hy; simp at hy, hXg.out⟩
          case round =>
            obtain ⟨j, rfl, hj, hD, hX2⟩ := hrel
            by_cases hjk : j < k
            · obtain ⟨y, hy⟩ : ∃ y, l[j]? = some y := ⟨_, List.getElem?_eq_getElem (by omega)⟩
              obtain ⟨b', o', e', -, -, d0, d1⟩ := hat.out j y hy
              obtain ⟨b'', o'', e'', -, -, f0, f1⟩ := hat.out k _ hx'.out
              cases e'
              cases e''
              have j0 := cell_later hX2 d0
              have j1 := cell_later hX2 d1
              have m0 := cell_later hX2 f0
              have hbr2 : b < _ := block_lt_of_cell j0
              by_cases hyn : y.1 = xn
              · have hf := hide (hR2.out (apart_not hx'.out hlt (List.mem_of_getElem? (show (l.take k)[j]? = some y by rw [List.getElem?_take, if_pos hjk]; exact hy)) hyn))
                obtain ⟨yn, yk⟩ := y
                simp only at hyn
                subst hyn
                clear d0 d1 f0 f1 hy hxok hD
                go_wp2_with fail
                go_quiet (fail)
                go_wp2_with fail
                go_returns
                exact ⟨by rw [hf.out]; rfl, hX2.drewN _⟩
              · have hD' : Hid (∀ d ∈ l.take (j + 1), d.1 ≠ xn) := by
                  intro d hd
                  rw [List.take_add_one, hy] at hd
                  rcases List.mem_append.1 hd with hd | hd
                  · exact hD.out d hd
                  · obtain rfl : d = y := by simpa using hd
                    exact hyn
                have h2 := str_ne hyn
                obtain ⟨yn, yk⟩ := y
                clear d0 d1 f0 f1 hy hxok hD hyn
                go_wp2_with fail
                go_quiet (fail)
                go_wp2_with fail
                go_roundg (k - (j + 1))
                case measure => omega
                case rel => exact ⟨j + 1, by go_num, by omega, hD', hX2.drewN _⟩
            · have hj' : j = k := by omega
              have hge : (k : Int) ≤ j := by omega
              have hA' : Hid (Apart l (k + 1)) := apart_step hA.out hx'.out (by rw [← hj']; exact hD.out)
              replace hj' := hide hj'
              clear hD
              go_wp2_with fail
              go_roundg (l.length - (k + 1))
              case measure => omega
              case rel => exact ⟨k + 1, by go_num, by omega, hxok, hA', hX2⟩
        · have b2 : (xk != 2) = false := by
            rw [bne_iff_ne] at b1
            rw [bne_eq_false_iff_eq]
            exact hk12.resolve_left b1
          clear hk12
          go_wp2_with (go_at_call 83; (with_reducible refine seq_gw (hin.out _) ?_); intro g)
          have hXg := hide (hX.trans g.grown)
          go_loopg [4] k (fun gh2 i2 wr2 => ∃ (j : Nat), i2 = .int .i64 j ∧ j + gh2 = k ∧ Hid (∀ d ∈ l.take j, d.1 ≠ xn) ∧ Ext w wr2)
          case atStart => exact ⟨0, rfl, by omega, by intro y hy; simp at hy, hXg.out⟩
          case round =>
            obtain ⟨j, rfl, hj, hD, hX2⟩ := hrel
            by_cases hjk : j < k
            · obtain ⟨y, hy⟩ : ∃ y, l[j]? = some y := ⟨_, List.getElem?_eq_getElem (by omega)⟩
              obtain ⟨b', o', e', -, -, d0, d1⟩ := hat.out j y hy
              obtain ⟨b'', o'', e'', -, -, f0, f1⟩ := hat.out k _ hx'.out
              cases e'
              cases e''
              have j0 := cell_later hX2 d0
              have j1 := cell_later hX2 d1
              have m0 := cell_later hX2 f0
              have hbr2 : b < _ := block_lt_of_cell j0
              by_cases hyn : y.1 = xn
              · have hf := hide (hR2.out (apart_not hx'.out hlt (List.mem_of_getElem? (show (l.take k)[j]? = some y by rw [List.getElem?_take, if_pos hjk]; exact hy)) hyn))
                obtain ⟨yn, yk⟩ := y
                simp only at hyn
                subst hyn
                clear d0 d1 f0 f1 hy hxok hD
                go_wp2_with fail
                go_quiet (fail)
                go_wp2_with fail
                go_returns
                exact ⟨by rw [hf.out]; rfl, hX2.drewN _⟩
              · have hD' : Hid (∀ d ∈ l.take (j + 1), d.1 ≠ xn) := by
                  intro d hd
                  rw [List.take_add_one, hy] at hd
                  rcases List.mem_append.1 hd with hd | hd
                  · exact hD.out d hd
                  · obtain rfl : d = y := by simpa using hd
                    exact hyn
                have h2 := str_ne hyn
                obtain ⟨yn, yk⟩ := y
                clear d0 d1 f0 f1 hy hxok hD hyn
                go_wp2_with fail
                go_quiet (fail)
                go_wp2_with fail
                go_roundg (k - (j + 1))
                case measure => omega
                case rel => exact ⟨j + 1, by go_num, by omega, hD', hX2.drewN _⟩
            · have hj' : j = k := by omega
              have hge : (k : Int) ≤ j := by omega
              have hA' : Hid (Apart l (k + 1)) := apart_step hA.out hx'.out (by rw [← hj']; exact hD.out)
              replace hj' := hide hj'
              clear hD
              go_wp2_with fail
              go_roundg (l.length - (k + 1))
              case measure => omega
              case rel => exact ⟨k + 1, by go_num, by omega, hxok, hA', hX2⟩
      · have hk' : k = l.length := by omega
        have hge : (l.length : Int) ≤ k := by omega
        have hf := hide (hR3.out (by have := hT.out; rwa [hk', List.take_length] at this) (by rw [← hk']; exact hA.out))
        replace hk' := hide hk'
        go_wp2_with fail
        go_returns
        exact ⟨by rw [hf.out]; rfl, hX⟩
  · have e : mayS l = false := by unfold mayS; rw [decide_eq_false (by omega), Bool.false_and]
    rw [e]
    have h8' : (8 : Int) < l.length := by omega
    clear e
    go_enter Tryz.func38, Tryz.ntmps38
    go_wp2_with fail
    go_returns
    exact ⟨rfl, Ext.refl w⟩
end Go.Proofs.YtajelkkiijdegaaGreat
