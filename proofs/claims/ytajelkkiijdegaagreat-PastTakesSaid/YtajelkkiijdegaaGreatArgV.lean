/-
  A helper of ours: no claim of its own. What comes in, as lists: rows of values, lists of numbers.
-/
import Derived.Test.YtajelkkiijdegaaGreatSchE
import Derived.Lib.AppendZerosOnto
import Derived.Lib.LazyBuf
import Derived.WalkLawsBesides
import Derived.Test.YtajelkkiijdegaaGreatReg5
import Derived.Test.YtajelkkiijdegaaGreatMem
import Derived.ChangeSlices
import Derived.Deep.SlicePairs
import Derived.Deep.Matrix
import Derived.SizedLaws
import Derived.Test.YtajelkkiijdegaaGreatRowA
set_option linter.unusedVariables false
set_option linter.unusedSimpArgs false
namespace Go.Proofs.YtajelkkiijdegaaGreat
open Go.RowKit
attribute [local go_sem] GW.cell GW.frozen In.eq_true In.le_true In.ne In.ne' In.ne_add In.ne_add' In.lt_add Upto.le_true Upto.le_add Upto.lt_add
set_option maxHeartbeats 4000000 in
set_option maxRecDepth 100000 in
theorem refMayS_c (l : List Cl) (v : Value) (w : World) (h : Cw w [] v l) : Calls Tryz.prog 38 #[v] w fun e w' => e = .returned (.bool (mayS l)) ∧ Ext w w' := by
  obtain ⟨A, cap, rfl, hl, hm, hat⟩ := cw_form h
  unfold maxLen at hm
  replace hat := hide hat
  clear h
  by_cases h0 : l.length = 0
  · have e : mayS l = false := by unfold mayS; rw [decide_eq_false (by omega), Bool.false_and]
    rw [e]
    have h0I : (l.length : Int) = 0 := by omega
    clear e
    replace h0 := hide h0
    go_enter Tryz.func38, Tryz.ntmps38
    go_wp2_with fail
    go_returns
    exact ⟨rfl, Ext.refl w⟩
  have h0I : ((l.length : Int) == 0) = false := by rw [beq_eq_false_iff_ne]; omega
  by_cases h8 : l.length ≤ 8
  · obtain ⟨R, hR⟩ : ∃ R, R = mayS l := ⟨_, rfl⟩
    rw [← hR]
    have h8' : (l.length : Int) ≤ 8 := by omega
    have hR1 : Hid (∀ c ∈ l, okC c = false → R = false) := fun c hc h => by
      rw [hR, ← Bool.not_eq_true, mayS_iff]; rintro ⟨-, h2, -⟩; rw [h2 c hc] at h; cases h
    have hR2 : Hid (¬ Apart l l.length → R = false) := fun h => by rw [hR, ← Bool.not_eq_true, mayS_iff]; exact fun h3 => h h3.2.2
    have hR3 : Hid ((∀ c ∈ l, okC c = true) → Apart l l.length → R = true) := fun h1 h2 => by rw [hR, mayS_iff]; exact ⟨⟨by omega, h8⟩, h1, h2⟩
    clear hR h0
    go_enter Tryz.func38, Tryz.ntmps38
    go_wp2_with fail
    go_loopg [3] l.length (fun gh i wr => ∃ (k : Nat), i = .int .i64 k ∧ k + gh = l.length ∧ Hid (∀ c ∈ l.take k, okC c = true) ∧ Hid (Apart l k) ∧ Ext w wr)
    case atStart => exact ⟨0, rfl, by omega, by intro y hy; simp at hy, apart_zero l, Ext.refl w⟩
    case round =>
      obtain ⟨k, rfl, hk, hT, hA, hX⟩ := hrel
      by_cases hlt : k < l.length
      · obtain ⟨x, hx⟩ : ∃ x, l[k]? = some x := ⟨_, List.getElem?_eq_getElem hlt⟩
        obtain ⟨b, o, rfl, -, hb, c0, c1⟩ := hat.out k x hx
        have k0 := cell_later hX c0
        have k1 := cell_later hX c1
        have hbr : b < wr.heap.size := block_lt_of_cell k0
        have hin := hide (fun w => refName_c x.1 w)
        have hbad := hide (hR1.out x (List.mem_of_getElem? hx))
        have hx' := hide hx
        obtain ⟨xn, xk⟩ := x
        have hok : okC (xn, xk) = (decide (xk = 1 ∨ xk = 2) && nameB xn) := rfl
        rw [hok] at hbad
        have hxok : Hid (nameB xn = true → (xk = 1 ∨ xk = 2) → ∀ c ∈ l.take (k + 1), okC c = true) := fun h1 h2 c hc => by
          rw [List.take_add_one, hx] at hc
          rcases List.mem_append.1 hc with hc | hc
          · exact hT.out c hc
          · obtain rfl : c = (xn, xk) := by simpa using hc
            rw [hok, h1, decide_eq_true h2]; rfl
        clear c0 c1 hx hok
        simp only at hin
        generalize nameB xn = nb at *
        cases nb
        · have hf := hide (hbad.out (by rw [Bool.and_false]))
          clear hxok hbad
          go_wp2_with (go_at_call 83; (with_reducible refine seq_gw (hin.out _) ?_); intro g)
          go_returns
          exact ⟨by rw [hf.out]; rfl, hX.trans g.grown⟩
        by_cases hk12 : ¬ (xk = 1 ∨ xk = 2)
        · have hf := hide (hbad.out (by rw [decide_eq_false hk12, Bool.false_and]))
          have b1 : (xk != 1) = true := by rw [bne_iff_ne]; exact fun e => hk12 (.inl e)
          have b2 : (xk != 2) = true := by rw [bne_iff_ne]; exact fun e => hk12 (.inr e)
          clear hxok hbad hk12
          haveI : In b wr := ⟨hbr⟩
          go_wp2_with (go_at_call 83; (with_reducible refine seq_gw (hin.out _) ?_); intro g)
          go_returns
          exact ⟨by rw [hf.out]; rfl, hX.trans g.grown⟩
        replace hk12 := Classical.not_not.1 hk12
        replace hxok := hide (hxok.out rfl hk12)
        clear hbad
        haveI : In b wr := ⟨hbr⟩
        cases b1 : (xk != 1)
        · clear hk12
          go_wp2_with (go_at_call 83; (with_reducible refine seq_gw (hin.out _) ?_); intro g)
          have hXg := hide (hX.trans g.grown)
          go_loopg [4] k (fun gh2 i2 wr2 => ∃ (j : Nat), i2 = .int .i64 j ∧ j + gh2 = k ∧ Hid (∀ d ∈ l.take j, d.1 ≠ xn) ∧ Ext w wr2)
          case atStart => exact ⟨0, rfl, by omega, by intro y hy; simp at hy, hXg.out⟩
          case round =>
            obtain ⟨j, rfl, hj, hD, hX2⟩ := hrel
            by_cases hjk : j < k
            · obtain ⟨y, hy⟩ : ∃ y, l[j]? = some y := ⟨_, List.getElem?_eq_getElem (by omega)⟩
              obtain ⟨b', o', e', -, -, d0, d1⟩ := hat.out j y hy
              obtain ⟨b'', o'', e'', -, -, f0, f1⟩ := hat.out k _ hx'.out
              cases e'
              cases e''
              have j0 := cell_later hX2 d0
              have j1 := cell_later hX2 d1
              have m0 := cell_later hX2 f0
              have hbr2 : b < _ := block_lt_of_cell j0
              by_cases hyn : y.1 = xn
              · have hf := hide (hR2.out (apart_not hx'.out hlt (List.mem_of_getElem? (show (l.take k)[j]? = some y by rw [List.getElem?_take, if_pos hjk]; exact hy)) hyn))
                obtain ⟨yn, yk⟩ := y
                simp only at hyn
                subst hyn
                clear d0 d1 f0 f1 hy hxok hD
                go_wp2_with fail
                go_quiet (fail)
                go_wp2_with fail
                go_returns
                exact ⟨by rw [hf.out]; rfl, hX2.drewN _⟩
              · have hD' : Hid (∀ d ∈ l.take (j + 1), d.1 ≠ xn) := by
                  intro d hd
                  rw [List.take_add_one, hy] at hd
                  rcases List.mem_append.1 hd with hd | hd
                  · exact hD.out d hd
                  · obtain rfl : d = y := by simpa using hd
                    exact hyn
                have h2 := str_ne hyn
                obtain ⟨yn, yk⟩ := y
                clear d0 d1 f0 f1 hy hxok hD hyn
                go_wp2_with fail
                go_quiet (fail)
                go_wp2_with fail
                go_roundg (k - (j + 1))
                case measure => omega
                case rel => exact ⟨j + 1, by go_num, by omega, hD', hX2.drewN _⟩
            · have hj' : j = k := by omega
              have hge : (k : Int) ≤ j := by omega
              have hA' : Hid (Apart l (k + 1)) := apart_step hA.out hx'.out (by rw [← hj']; exact hD.out)
              replace hj' := hide hj'
              clear hD
              go_wp2_with fail
              go_roundg (l.length - (k + 1))
              case measure => omega
              case rel => exact ⟨k + 1, by go_num, by omega, hxok, hA', hX2⟩
        · have b2 : (xk != 2) = false := by
            rw [bne_iff_ne] at b1
            rw [bne_eq_false_iff_eq]
            exact hk12.resolve_left b1
          clear hk12
          go_wp2_with (go_at_call 83; (with_reducible refine seq_gw (hin.out _) ?_); intro g)
          have hXg := hide (hX.trans g.grown)
          go_loopg [4] k (fun gh2 i2 wr2 => ∃ (j : Nat), i2 = .int .i64 j ∧ j + gh2 = k ∧ Hid (∀ d ∈ l.take j, d.1 ≠ xn) ∧ Ext w wr2)
          case atStart => exact ⟨0, rfl, by omega, by intro y hy; simp at hy, hXg.out⟩
          case round =>
            obtain ⟨j, rfl, hj, hD, hX2⟩ := hrel
            by_cases hjk : j < k
            · obtain ⟨y, hy⟩ : ∃ y, l[j]? = some y := ⟨_, List.getElem?_eq_getElem (by omega)⟩
              obtain ⟨b', o', e', -, -, d0, d1⟩ := hat.out j y hy
              obtain ⟨b'', o'', e'', -, -, f0, f1⟩ := hat.out k _ hx'.out
              cases e'
              cases e''
              have j0 := cell_later hX2 d0
              have j1 := cell_later hX2 d1
              have m0 := cell_later hX2 f0
              have hbr2 : b < _ := block_lt_of_cell j0
              by_cases hyn : y.1 = xn
              · have hf := hide (hR2.out (apart_not hx'.out hlt (List.mem_of_getElem? (show (l.take k)[j]? = some y by rw [List.getElem?_take, if_pos hjk]; exact hy)) hyn))
                obtain ⟨yn, yk⟩ := y
                simp only at hyn
                subst hyn
                clear d0 d1 f0 f1 hy hxok hD
                go_wp2_with fail
                go_quiet (fail)
                go_wp2_with fail
                go_returns
                exact ⟨by rw [hf.out]; rfl, hX2.drewN _⟩
              · have hD' : Hid (∀ d ∈ l.take (j + 1), d.1 ≠ xn) := by
                  intro d hd
                  rw [List.take_add_one, hy] at hd
                  rcases List.mem_append.1 hd with hd | hd
                  · exact hD.out d hd
                  · obtain rfl : d = y := by simpa using hd
                    exact hyn
                have h2 := str_ne hyn
                obtain ⟨yn, yk⟩ := y
                clear d0 d1 f0 f1 hy hxok hD hyn
                go_wp2_with fail
                go_quiet (fail)
                go_wp2_with fail
                go_roundg (k - (j + 1))
                case measure => omega
                case rel => exact ⟨j + 1, by go_num, by omega, hD', hX2.drewN _⟩
            · have hj' : j = k := by omega
              have hge : (k : Int) ≤ j := by omega
              have hA' : Hid (Apart l (k + 1)) := apart_step hA.out hx'.out (by rw [← hj']; exact hD.out)
              replace hj' := hide hj'
              clear hD
              go_wp2_with fail
              go_roundg (l.length - (k + 1))
              case measure => omega
              case rel => exact ⟨k + 1, by go_num, by omega, hxok, hA', hX2⟩
      · have hk' : k = l.length := by omega
        have hge : (l.length : Int) ≤ k := by omega
        have hf := hide (hR3.out (by have := hT.out; rwa [hk', List.take_length] at this) (by rw [← hk']; exact hA.out))
        replace hk' := hide hk'
        go_wp2_with fail
        go_returns
        exact ⟨by rw [hf.out]; rfl, hX⟩
  · have e : mayS l = false := by unfold mayS; rw [decide_eq_false (by omega), Bool.false_and]
    rw [e]
    have h8' : (8 : Int) < l.length := by omega
    clear e
    go_enter Tryz.func38, Tryz.ntmps38
    go_wp2_with fail
    go_returns
    exact ⟨rfl, Ext.refl w⟩
end Go.Proofs.YtajelkkiijdegaaGreat
set_option linter.unusedVariables false
set_option linter.unusedSimpArgs false
namespace Go.Proofs.YtajelkkiijdegaaGreat
open Go.RowKit
attribute [local go_sem] GW.cell GW.frozen In.eq_true In.le_true In.ne In.ne' In.ne_add In.ne_add' In.lt_add Upto.le_true Upto.le_add Upto.lt_add
end Go.Proofs.YtajelkkiijdegaaGreat
set_option linter.unusedVariables false
set_option linter.unusedSimpArgs false
namespace Go.Proofs.YtajelkkiijdegaaGreat
open Go.RowKit
attribute [local go_sem] GW.cell GW.frozen In.eq_true In.le_true In.ne In.ne' In.ne_add In.ne_add' In.lt_add Upto.le_true Upto.le_add Upto.lt_add
/-- Does the row fit? -/
def fitsS (l : List Cl) (r : List Vl) : Bool := mayS l && (mayR r && eqP (fun (x : Cl) (y : Vl) => x.2 == y.1) l r)
set_option maxHeartbeats 4000000 in
set_option maxRecDepth 100000 in
theorem refFitsL_c {l : List Cl} {m : List Vl} {v u : Value} {w : World} (hl : Cw w [] v l) (hm : Rw w [] u m) (ha : mayS l = true) (hb : mayR m = true) : Calls Tryz.prog 47 #[v, u] w fun e w' => e = .returned (.bool (eqP (fun (x : Cl) (y : Vl) => x.2 == y.1) l m)) ∧ Ext w w' := by
  have h1 := hide (refMayS_c l v w hl)
  rw [ha] at h1
  have h2 := hide (fun w' (hX : Ext w w') => refRowMay_c m u w' (Sl.ext hm hX))
  rw [hb] at h2
  clear ha hb
  obtain ⟨A, cap, rfl, hlc, hlm, hat⟩ := cw_form hl
  obtain ⟨B, cap2, rfl, hmc, hmm, hbt⟩ := rw_form hm
  unfold maxLen at hlm hmm
  clear hl hm
  replace hat := hide hat
  replace hbt := hide hbt
  obtain ⟨R, hR⟩ : ∃ R, R = eqP (fun (x : Cl) (y : Vl) => x.2 == y.1) l m := ⟨_, rfl⟩
  rw [← hR]
  by_cases hn : l.length = m.length
  · replace hR := hide hR
    obtain ⟨n, hln⟩ : ∃ n, n = l.length := ⟨_, rfl⟩
    have hmn : n = m.length := by omega
    rw [← hln] at hlc h1 ⊢
    rw [← hmn] at hmc h2 ⊢
    have hlI := hide hln
    have hmI := hide hmn
    clear hn hln hmn
    go_enter Tryz.func47, Tryz.ntmps47
    go_wp2_with (first | (go_at_call 38; (with_reducible refine seq_gw h1.out ?_); intro g) | (go_at_call 96; (with_reducible refine seq_gw' (h2.out _ g.grown) ?_); intro g2))
    go_loopg [5] n (fun gh i wr => ∃ (k : Nat), i = .int .i64 k ∧ k + gh = n ∧ Hid (R = eqP (fun (x : Cl) (y : Vl) => x.2 == y.1) (l.drop k) (m.drop k)) ∧ Ext w wr)
    case atStart => exact ⟨0, rfl, by omega, hR, g2.grown⟩
    case round =>
      obtain ⟨k, rfl, hk, hRk, hX⟩ := hrel
      clear hR
      by_cases hlt : k < n
      · obtain ⟨x, hx⟩ : ∃ x, l[k]? = some x := ⟨_, List.getElem?_eq_getElem (by have := hlI.out; omega)⟩
        obtain ⟨y, hy⟩ : ∃ y, m[k]? = some y := ⟨_, List.getElem?_eq_getElem (by have := hmI.out; omega)⟩
        obtain ⟨b, o, rfl, -, hb, c0, c1⟩ := hat.out k x hx
        obtain ⟨b', o', rfl, -, hb', d0, d1, d2⟩ := hbt.out k y hy
        have k0 := cell_later hX c0
        have k1 := cell_later hX c1
        have j0 := cell_later hX d0
        have j1 := cell_later hX d1
        have j2 := cell_later hX d2
        have hbr : b < wr.heap.size := block_lt_of_cell k0
        have hbr' : b' < wr.heap.size := block_lt_of_cell j0
        have hR2 := hRk.out
        rw [drop_cons hx, drop_cons hy] at hR2
        obtain ⟨xn, xk⟩ := x
        obtain ⟨yk, yv, yn⟩ := y
        clear c0 c1 d0 d1 d2 hat hbt hx hy hlI hmI hRk
        by_cases hxy : xk = yk
        · rw [eqP_yes (p := (fun (x : Cl) (y : Vl) => x.2 == y.1)) (x := (xn, xk)) (y := (yk, yv, yn)) (by simp [hxy])] at hR2
          replace hR2 := hide hR2
          subst hxy
          go_wp2_with fail
          go_quiet (fail)
          go_wp2_with fail
          go_roundg (n - (k + 1))
          case measure => omega
          case rel => exact ⟨k + 1, by go_num, by omega, hR2, hX.drewN _⟩
        · rw [eqP_no (p := (fun (x : Cl) (y : Vl) => x.2 == y.1)) (x := (xn, xk)) (y := (yk, yv, yn)) (by simp [hxy])] at hR2
          replace hR2 := hide hR2
          have hns : (xk == yk) = false := by rw [beq_eq_false_iff_ne]; exact hxy
          replace hxy := hide hxy
          go_wp2_with fail
          go_quiet (fail)
          go_wp2_with fail
          go_returns
          exact ⟨by rw [hR2.out]; rfl, hX.drewN _⟩
      · have hk' : k = n := by omega
        have hge : (n : Int) ≤ k := by omega
        have hR2 := hRk.out
        rw [List.drop_eq_nil_of_le (by have := hlI.out; omega), List.drop_eq_nil_of_le (by have := hmI.out; omega)] at hR2
        replace hR2 : R = true := hR2
        replace hR2 := hide hR2
        replace hk' := hide hk'
        go_wp2_with fail
        go_returns
        exact ⟨by rw [hR2.out]; rfl, hX⟩
  · have hR2 := hR.trans (eqP_len hn)
    replace hR2 := hide hR2
    have hnI : ¬ (l.length : Int) = m.length := by omega
    clear hR hn
    go_enter Tryz.func47, Tryz.ntmps47
    go_wp2_with (first | (go_at_call 38; (with_reducible refine seq_gw h1.out ?_); intro g) | (go_at_call 96; (with_reducible refine seq_gw' (h2.out _ g.grown) ?_); intro g2))
    go_returns
    exact ⟨by rw [hR2.out]; rfl, g2.grown⟩
set_option maxHeartbeats 2000000 in
theorem fitsS_c {l : List Cl} {m : List Vl} {v u : Value} {w : World} (hl : Cw w [] v l) (hm : Rw w [] u m) : Calls Tryz.prog 27 #[v, u] w fun e w' => e = .returned (.bool (fitsS l m)) ∧ Ext w w' := by
  have hl' := hl
  have hm' := hm
  have h1 := hide (mayS_c l v w hl)
  have h2 := hide (fun w' (hX : Ext w w') => rowMay_c m u w' (Sl.ext hm hX))
  obtain ⟨A, cap, rfl, hlc, hlm, -⟩ := cw_form hl
  obtain ⟨B, cap2, rfl, hmc, hmm, -⟩ := rw_form hm
  unfold fitsS
  cases ha : mayS l
  · rw [ha] at h1
    rw [Bool.false_and]
    clear ha hl hm hl' hm' h2
    go_enter Tryz.func27, Tryz.ntmps27
    go_wp2_with (go_at_call 36; (with_reducible refine seq_gw h1.out ?_); intro g)
    go_returns
    exact ⟨rfl, g.grown⟩
  cases hb : mayR m
  · rw [ha] at h1
    rw [hb] at h2
    rw [Bool.false_and, Bool.and_false]
    clear ha hb hl hm hl' hm'
    go_enter Tryz.func27, Tryz.ntmps27
    go_wp2_with (first | (go_at_call 36; (with_reducible refine seq_gw h1.out ?_); intro g) | (go_at_call 55; (with_reducible refine seq_gw' (h2.out _ g.grown) ?_); intro g2))
    go_returns
    exact ⟨rfl, g2.grown⟩
  rw [Bool.true_and, Bool.true_and]
  have he := hide (fun w' (hX : Ext w w') => equalFunc2_c (Sl.ext hl' hX) (Sl.ext hm' hX))
  rw [ha] at h1
  rw [hb] at h2
  generalize eqP (fun (x : Cl) (y : Vl) => x.2 == y.1) l m = R at *
  clear ha hb hl hm hl' hm'
  go_enter Tryz.func27, Tryz.ntmps27
  go_wp2_with (first | (go_at_call 36; (with_reducible refine seq_gw h1.out ?_); intro g) | (go_at_call 55; (with_reducible refine seq_gw' (h2.out _ g.grown) ?_); intro g2) | (go_at_call 56; (with_reducible refine seq_gw' (he.out _ g2.grown) ?_); intro g3))
  go_returns
  exact ⟨rfl, g3.grown⟩
set_option maxHeartbeats 2000000 in
theorem refFitsS_c {l : List Cl} {m : List Vl} {v u : Value} {w : World} (hl : Cw w [] v l) (hm : Rw w [] u m) : Calls Tryz.prog 47 #[v, u] w fun e w' => e = .returned (.bool (fitsS l m)) ∧ Ext w w' := by
  have hl' := hl
  have hm' := hm
  have h1 := hide (refMayS_c l v w hl)
  have h2 := hide (fun w' (hX : Ext w w') => refRowMay_c m u w' (Sl.ext hm hX))
  obtain ⟨A, cap, rfl, hlc, hlm, -⟩ := cw_form hl
  obtain ⟨B, cap2, rfl, hmc, hmm, -⟩ := rw_form hm
  unfold fitsS
  cases ha : mayS l
  · rw [ha] at h1
    rw [Bool.false_and]
    clear ha hl hm hl' hm' h2
    go_enter Tryz.func47, Tryz.ntmps47
    go_wp2_with (go_at_call 38; (with_reducible refine seq_gw h1.out ?_); intro g)
    go_returns
    exact ⟨rfl, g.grown⟩
  cases hb : mayR m
  · rw [ha] at h1
    rw [hb] at h2
    rw [Bool.false_and, Bool.and_false]
    clear ha hb hl hm hl' hm'
    go_enter Tryz.func47, Tryz.ntmps47
    go_wp2_with (first | (go_at_call 38; (with_reducible refine seq_gw h1.out ?_); intro g) | (go_at_call 96; (with_reducible refine seq_gw' (h2.out _ g.grown) ?_); intro g2))
    go_returns
    exact ⟨rfl, g2.grown⟩
  rw [Bool.true_and, Bool.true_and]
  exact refFitsL_c hl' hm' ha hb
end Go.Proofs.YtajelkkiijdegaaGreat
set_option linter.unusedVariables false
set_option linter.unusedSimpArgs false
namespace Go.Proofs.YtajelkkiijdegaaGreat
open Go.RowKit Go.Deep Go.ChangeShapes

section
variable {H : Type} {enc : TypeId × Value → H} {P : Program} {w : World} {base fuel : Nat} {held : Bool}
theorem addr_plain {a : Addr} {i : Nat} {v : Value} (h : w.cell? (a.add i) = some v) (h0 : i = 0) : ∃ b o, a = ⟨b, o, none⟩ := by
  subst h0
  have := World.cell?_spot h
  obtain ⟨b, o, s⟩ := a
  simp [Addr.add] at this
  subst this
  exact ⟨b, o, rfl⟩
theorem wf_i64 {z : Int} (h : (Lit.int .i64 z).wf = true) : -9223372036854775808 ≤ z ∧ z ≤ 9223372036854775807 := by simpa [Lit.wf, IntKind.min, IntKind.max, IntKind.bits, IntKind.signed] using h

/-- How many elements a reading of a slice has, and no spare beyond. -/
def sliceLen : DataW H → Nat
  | .slice elems spare => elems.length
  | _ => 0

/-- Pairs of numbers as cells. -/
def ps (l : List (Int × Int)) : List Value := l.flatMap fun p => [.int .i64 p.1, .int .i64 p.2]
end
end Go.Proofs.YtajelkkiijdegaaGreat
set_option linter.unusedVariables false
set_option linter.unusedSimpArgs false
namespace Go.Proofs.YtajelkkiijdegaaGreat
open Go.RowKit Go.Deep Go.ChangeShapes

section
variable {H : Type} {enc : TypeId × Value → H} {P : Program} {w : World} {base fuel : Nat} {held : Bool}
theorem rc_at (l : List Vl) (j : Nat) (u : Value) (h : (rc l)[j]? = some u) : ∃ i a k, l[i]? = some a ∧ j = i * 3 + k ∧ (vc a)[k]? = some u := by
  have hj : j < l.length * 3 := by
    rcases Nat.lt_or_ge j (l.length * 3) with h1 | h1
    · exact h1
    · rw [List.getElem?_eq_none (by rw [rc_length]; exact h1)] at h; cases h
  have hi : j / 3 < l.length := by omega
  refine ⟨j / 3, l[j / 3], j % 3, List.getElem?_eq_getElem hi, by omega, ?_⟩
  have hk : j % 3 = 0 ∨ j % 3 = 1 ∨ j % 3 = 2 := by omega
  obtain ⟨v, hv⟩ : ∃ v, (vc l[j / 3])[j % 3]? = some v := by
    rcases hk with e | e | e <;> rw [e] <;> exact ⟨_, rfl⟩
  have := rc_get l (j / 3) _ (List.getElem?_eq_getElem hi) _ v hv
  rw [show j / 3 * 3 + j % 3 = j by omega, h] at this
  rw [hv, this]
theorem open_row {t e : TypeId} {f0 f1 f2 : Field} {v : Value} {x : DataW H × List MemPlace} (ht : P.underlying t = some (.slice e)) (he : P.underlying e = some (.struct #[f0, f1, f2]))
    (ce : P.cellsOf e = 3) (o0 : f0.offset = 0) (o1 : f1.offset = 1) (o2 : f2.offset = 2) (c0 : P.cellsOf f0.type = 1) (c1 : P.cellsOf f1.type = 1) (c2 : P.cellsOf f2.type = 1)
    (u0 : P.underlying f0.type = some (.int .i64)) (u1 : P.underlying f1.type = some (.int .i64)) (u2 : P.underlying f2.type = some .string)
    (h : DataW.trod enc P w base (fun _ => true) held fuel t [v] = some x) : ∃ l : List Vl, l.length = sliceLen x.1 ∧ Rw w [] v l ∧ ∀ a ∈ l, inI a.2.1 := by
  rcases open_slice ht h with ⟨h1, rfl⟩ | ⟨a, len, cap, m, n, D, Pl, h1, _, hl, hm, hmm, rfl, hel⟩
  · obtain rfl : v = .slice none 0 0 := by simpa using h1
    exact ⟨[], rfl, Sl.nil _ _ _, by simp⟩
  · obtain rfl : v = .slice (some a) len cap := by simpa using h1
    simp only [if_true] at hmm
    have each : ∀ i, i < len → ∃ p : Vl, (∀ k u, (vc p)[k]? = some u → w.cell? ((a.add (i * 3)).add k) = some u) ∧ inI p.2.1 := by
      intro i hi
      obtain ⟨cs, hc, htr⟩ := hel i (by omega)
      rw [ce] at hc
      obtain ⟨_, hlen, hat⟩ := World.cells?_some hc
      obtain ⟨xs, k, _, _, _, hxl, hf⟩ := DataW.trod_struct he htr
      match cs, hlen with
      | [w0, w1, w2], _ =>
        match xs, hxl with
        | [y0, y1, y2], _ =>
          have g0 := hf 0 f0 rfl
          have g1 := hf 1 f1 rfl
          have g2 := hf 2 f2 rfl
          rw [o0, c0] at g0
          rw [o1, c1] at g1
          rw [o2, c2] at g2
          obtain ⟨z0, q0, _, _⟩ := DataW.trod_int u0 g0
          obtain ⟨z1, q1, _, k1⟩ := DataW.trod_int u1 g1
          obtain ⟨z2, q2, _, _⟩ := DataW.trod_string u2 g2
          simp at q0 q1 q2
          subst q0; subst q1; subst q2
          refine ⟨(z0, z1, z2), fun k u hu => ?_, wf_i64 k1⟩
          have hk : k < 3 := by simpa [vc] using (List.getElem?_eq_some_iff.1 hu).1
          rw [hat k hk]
          exact hu
    obtain ⟨p, hp⟩ := choose_lt (α := Vl) (p := fun i p => (∀ k u, (vc p)[k]? = some u → w.cell? ((a.add (i * 3)).add k) = some u) ∧ inI p.2.1) each
    refine ⟨(List.range len).map p, by simp [sliceLen], ⟨some a, cap, by simp, by simpa using hl, hm, by rw [rc_length], ?_⟩, ?_⟩
    · by_cases h0 : len = 0
      · left; subst h0; rfl
      right
      have hz := (hp 0 (by omega)).1 0 _ rfl
      obtain ⟨b, o, rfl⟩ := addr_plain (i := 0) (a := a) (by
        have e0 : (a.add (0 * 3)).add 0 = a.add 0 := by rw [Nat.zero_mul]; exact (show (a.add 0).add 0 = a.add (0 + 0) from Go.Deep.add_add ..)
        rw [e0] at hz; exact hz) rfl
      refine ⟨b, o, rfl, by simp, fun j u hu => ?_⟩
      obtain ⟨i, q, k, hq, rfl, hk⟩ := rc_at _ j u hu
      have hi : i < len := by
        rcases Nat.lt_or_ge i len with h | h
        · exact h
        · rw [List.getElem?_eq_none (by simpa using h)] at hq; cases hq
      have hq' : q = p i := by simpa [hi] using hq.symm
      subst hq'
      have := (hp i hi).1 k u hk
      rw [add_plain, add_plain, Nat.add_assoc] at this
      exact this
    · intro q hq
      simp only [List.mem_map, List.mem_range] at hq
      obtain ⟨i, hi, rfl⟩ := hq
      exact (hp i hi).2
theorem sized_elems {ts : List TypeId} {ds : List (DataW H)} (h : (DataW.weightsEach P ts ds).all (· ≤ reachBytes) = true) {j : Nat} {t e : TypeId} {d : DataW H} {b : Nat} (ht : ts[j]? = some t) (hd : ds[j]? = some d) (hu : P.underlying t = some (.slice e)) (hb : P.bytesOf e = b) :
    sliceLen d * b ≤ 140737488351232 := by
  cases d with
  | slice elems spare =>
    have h1 := sized_slice h ht hd hu
    rw [hb] at h1
    have h2 := Nat.mul_le_mul_right b (Nat.le_add_right elems.length spare.length)
    simp only [sliceLen, reachBytes] at *
    omega
  | _ => simp [sliceLen]
end
end Go.Proofs.YtajelkkiijdegaaGreat
