/-
  A helper of ours: no claim of its own. Layer 11 (pack): pieces in memory: which may be, which are the same, by the code and by the document.
-/
import Derived.Test.YtiknkcadbaeknaaGreatEdgB
import Derived.Test.YtiknkcadbaeknaaGreatFolC
set_option linter.unusedVariables false
set_option linter.unusedSimpArgs false
namespace Go.Proofs.YtiknkcadbaeknaaGreat
open Go.RowKit
attribute [local go_sem] GW.cell GW.frozen In.eq_true In.le_true In.ne In.ne' In.ne_add In.ne_add' In.lt_add Upto.le_true Upto.le_add Upto.lt_add
theorem eql_spn (a b c d : Int) (w : World) : (binOp .eql 42 (jm (a, b)) (jm (c, d))).run Tryz.prog w = .ok (.bool (a == c && b == d)) w := by
  by_cases h1 : a = c <;> by_cases h2 : b = d <;> simp [go_sem, h1, h2]
theorem neq_spn (a b c d : Int) (w : World) : (binOp .neq 42 (jm (a, b)) (jm (c, d))).run Tryz.prog w = .ok (.bool (!(a == c && b == d))) w := by
  by_cases h1 : a = c <;> by_cases h2 : b = d <;> simp [go_sem, h1, h2]
/-- A lifetime of what was there ahead of all ticks. -/
def fbB (j : Jp) : Bool := decide (j.1 = -1 ∧ 0 ≤ j.2 ∧ j.2 ≤ 1125899906842624)
/-- A piece: a row, and a lifetime. -/
def mayPc (e : Ed) : Bool := mayR e.1 && (smayB e.2.1 e.2.2 || fbB e.2)
set_option maxHeartbeats 1000000 in
theorem fromBefore_c (a b : Int) (w : World) : Calls Tryz.prog 207 #[.agg #[.int .i64 a, .int .i64 b]] w fun e w' => e = .returned (.bool (fbB (a, b))) ∧ Ext w w' := by
  obtain ⟨R, hR⟩ : ∃ R, R = fbB (a, b) := ⟨_, rfl⟩
  rw [← hR]
  unfold fbB at hR
  simp only at hR
  by_cases h1 : a = -1
  · subst h1
    by_cases h2 : 0 ≤ b
    · by_cases h3 : b ≤ 1125899906842624
      · have hf := hide (show R = true by rw [hR, decide_eq_true_iff]; omega)
        clear hR
        have d2 : decide (0 ≤ b) = true := decide_eq_true h2
        have d3 : decide (b ≤ 1125899906842624) = true := decide_eq_true h3
        go_enter Tryz.func207, Tryz.ntmps207
        go_wp2_with fail
        go_returns
        exact ⟨by rw [hf.out]; first | rfl | simp [d2, d3], (Ext.refl w).alloc _⟩
      · have hf := hide (show R = false by rw [hR, decide_eq_false_iff_not]; omega)
        clear hR
        have d2 : decide (0 ≤ b) = true := decide_eq_true h2
        have d3 : decide (b ≤ 1125899906842624) = false := decide_eq_false h3
        go_enter Tryz.func207, Tryz.ntmps207
        go_wp2_with fail
        go_returns
        exact ⟨by rw [hf.out]; first | rfl | simp [d2, d3], (Ext.refl w).alloc _⟩
    · have hf := hide (show R = false by rw [hR, decide_eq_false_iff_not]; omega)
      clear hR
      have d2 : decide (0 ≤ b) = false := decide_eq_false h2
      go_enter Tryz.func207, Tryz.ntmps207
      go_wp2_with fail
      go_returns
      exact ⟨by rw [hf.out]; first | rfl | simp [d2], (Ext.refl w).alloc _⟩
  · have hf := hide (show R = false by rw [hR, decide_eq_false_iff_not]; omega)
    have b1 : (a == -1) = false := by rw [beq_eq_false_iff_ne]; exact h1
    clear hR
    replace h1 := hide h1
    go_enter Tryz.func207, Tryz.ntmps207
    go_wp2_with fail
    go_returns
    exact ⟨by rw [hf.out]; first | rfl | simp [b1], (Ext.refl w).alloc _⟩
set_option maxHeartbeats 4000000 in
theorem pcMay_c (q : List Vl) (j : Jp) (v : Value) (w : World) (h : Rw w [] v q) : Calls Tryz.prog 150 #[em v j] w fun e w' => e = .returned (.bool (mayPc (q, j))) ∧ Ext w w' := by
  obtain ⟨a, b⟩ := j
  have h1 := hide (fun w' (hX : Ext w w') => rowMay_c q v w' (Sl.ext h hX))
  have h2 := hide (fun w => smay_c a b w)
  have h3 := hide (fun w => fromBefore_c a b w)
  obtain ⟨A, cap, rfl⟩ := rw_val h
  have hX0 := hide ((Ext.refl w).alloc (.cells #[.slice A q.length cap, .int .i64 a, .int .i64 b] 95))
  have he : mayPc (q, (a, b)) = (mayR q && (smayB a b || fbB (a, b))) := rfl
  rw [he]
  generalize mayR q = m1 at *
  generalize smayB a b = m2 at *
  generalize fbB (a, b) = m3 at *
  clear h he
  cases m1
  · go_enter Tryz.func150, Tryz.ntmps150
    go_wp2_with (go_at_call 77; (with_reducible refine seq_gw (h1.out _ hX0.out) ?_); intro g)
    go_returns
    exact ⟨rfl, hX0.out.trans g.grown⟩
  cases m2
  · go_enter Tryz.func150, Tryz.ntmps150
    go_wp2_with (first | (go_at_call 77; (with_reducible refine seq_gw (h1.out _ hX0.out) ?_); intro g) | (go_at_call 133; (with_reducible refine seq_gw' (h2.out _) ?_); intro g2) | (go_at_call 207; (with_reducible refine seq_gw' (h3.out _) ?_); intro g3))
    go_returns
    exact ⟨by first | rfl | simp, hX0.out.trans g3.grown⟩
  · go_enter Tryz.func150, Tryz.ntmps150
    go_wp2_with (first | (go_at_call 77; (with_reducible refine seq_gw (h1.out _ hX0.out) ?_); intro g) | (go_at_call 133; (with_reducible refine seq_gw' (h2.out _) ?_); intro g2))
    go_returns
    exact ⟨by first | rfl | simp, hX0.out.trans g2.grown⟩
set_option maxHeartbeats 1000000 in
theorem pcNone_c (q : List Vl) (j : Jp) (v : Value) (w : World) (h : Rw w [] v q) : Calls Tryz.prog 91 #[em v j] w fun e w' => e = .returned (.bool (!mayPc (q, j))) ∧ Ext w w' := by
  have h1 := hide (fun w' (hX : Ext w w') => pcMay_c q j v w' (Sl.ext h hX))
  obtain ⟨a, b⟩ := j
  obtain ⟨A, cap, rfl⟩ := rw_val h
  have hX0 := hide ((Ext.refl w).alloc (.cells #[.slice A q.length cap, .int .i64 a, .int .i64 b] 95))
  generalize mayPc (q, (a, b)) = m at *
  clear h
  go_enter Tryz.func91, Tryz.ntmps91
  go_wp2_with (go_at_call 150; (with_reducible refine seq_gw (h1.out _ hX0.out) ?_); intro g)
  go_returns
  exact ⟨by first | rfl | simp, hX0.out.trans g.grown⟩
attribute [local go_sem] eql_spn neq_spn
set_option maxHeartbeats 2000000 in
theorem indexPc_c (L : List Ve) (v : Value) (w : World) (h : Ew w [] v L) : Calls Tryz.prog 149 #[v, .func (.func 91) #[] #[]] w fun e w' => e = .returned (.int .i64 (idxP (fun x : Ve => mayPc x.2) 0 L)) ∧ Ext w w' := by
  obtain ⟨A, cap, rfl, hl, hm, hat⟩ := ew_form h
  unfold maxLen at hm
  replace hat := hide hat
  have hrows := hide h.2
  clear h
  obtain ⟨R, hR⟩ : ∃ R, R = idxP (fun x : Ve => mayPc x.2) 0 L := ⟨_, rfl⟩
  rw [← hR]
  replace hR := hide hR
  go_enter Tryz.func149, Tryz.ntmps149
  go_wp2_with fail
  go_loopg [8] L.length (fun gh i wr => ∃ (k : Nat), i = .int .i64 k ∧ k + gh = L.length ∧ Hid (R = idxP (fun x : Ve => mayPc x.2) k (L.drop k)) ∧ Ext w wr)
  case atStart => exact ⟨0, rfl, by omega, by simpa using hR, Ext.refl w⟩
  case round =>
    obtain ⟨k, rfl, hk, hRk, hX⟩ := hrel
    clear hR
    by_cases hlt : k < L.length
    · obtain ⟨x, hx⟩ : ∃ x, L[k]? = some x := ⟨_, List.getElem?_eq_getElem hlt⟩
      obtain ⟨b, o, rfl, -, hb, c0, c1, c2⟩ := hat.out k x hx
      have k0 := cell_later hX c0
      have k1 := cell_later hX c1
      have k2 := cell_later hX c2
      have hbr : b < wr.heap.size := block_lt_of_cell k0
      have hrw := Sl.ext (hrows.out x (List.mem_of_getElem? hx)) hX
      have hR2 := hRk.out
      rw [drop_cons hx] at hR2
      obtain ⟨xv, xq, xa, xn⟩ := x
      simp only at k0 k1 k2 hrw
      have hin := hide (fun w' (hXw : Ext wr w') => pcNone_c xq (xa, xn) xv w' (Sl.ext hrw hXw))
      have hX00 := hide (Ext.refl wr)
      obtain ⟨XA, xcap, rfl⟩ := rw_val hrw
      clear c0 c1 c2 hat hx hrows hrw
      cases hmx : mayPc (xq, (xa, xn))
      · rw [hmx] at hin
        rw [idxP_no (p := (fun x : Ve => mayPc x.2)) (x := (.slice XA xq.length xcap, xq, xa, xn)) hmx] at hR2
        replace hR2 := hide hR2
        replace hmx := hide hmx
        go_wp2_with (go_at_call 91; (with_reducible refine seq_gw (hin.out _ hX00.out) ?_); intro g)
        go_returns
        exact ⟨by rw [hR2.out]; rfl, hX.trans g.grown⟩
      · rw [hmx] at hin
        rw [idxP_yes (p := (fun x : Ve => mayPc x.2)) (x := (.slice XA xq.length xcap, xq, xa, xn)) hmx] at hR2
        replace hR2 := hide hR2
        replace hmx := hide hmx
        go_wp2_with (go_at_call 91; (with_reducible refine seq_gw (hin.out _ hX00.out) ?_); intro g)
        go_roundg (L.length - (k + 1))
        case measure => omega
        case rel => exact ⟨k + 1, by go_num, by omega, hR2, hX.trans g.grown⟩
    · have hk' : k = L.length := by omega
      have hge : (L.length : Int) ≤ k := by omega
      have hR2 := hRk.out
      rw [hk', List.drop_length] at hR2
      replace hR2 := hide hR2
      replace hk' := hide hk'
      go_wp2_with fail
      go_returns
      exact ⟨by rw [hR2.out]; rfl, hX⟩
set_option maxHeartbeats 1000000 in
theorem containsPc_c (L : List Ve) (v : Value) (w : World) (h : Ew w [] v L) : Calls Tryz.prog 90 #[v, .func (.func 91) #[] #[]] w fun e w' => e = .returned (.bool (!L.all (fun x : Ve => mayPc x.2))) ∧ Ext w w' := by
  have hc := hide (indexPc_c L v w h)
  have e := hide (idxP_ge (fun x : Ve => mayPc x.2) 0 L)
  generalize idxP (fun x : Ve => mayPc x.2) 0 L = z at *
  obtain ⟨A, cap, rfl, -, -, -⟩ := ew_form h
  clear h
  go_enter Tryz.func90, Tryz.ntmps90
  go_wp2_with (go_at_call 149; (with_reducible refine seq_gw hc.out ?_); intro g)
  go_returns
  exact ⟨by rw [← e.out]; first | rfl | simp, g.grown⟩
set_option maxHeartbeats 8000000 in
set_option maxRecDepth 100000 in
theorem refPieceSame_c {L M : List Ve} {v u : Value} {w : World} (hl : Ew w [] v L) (hm : Ew w [] u M) : Calls Tryz.prog 20 #[v, u] w fun e w' => e = .returned (.bool (decide (eds L = eds M))) ∧ Ext w w' := by
  obtain ⟨A, cap, rfl, hlc, hlm, hat⟩ := ew_form hl
  obtain ⟨B, cap2, rfl, hmc, hmm, hbt⟩ := ew_form hm
  unfold maxLen at hlm hmm
  have hrl := hide hl.2
  have hrm := hide hm.2
  clear hl hm
  replace hat := hide hat
  replace hbt := hide hbt
  obtain ⟨R, hR⟩ : ∃ R, R = decide (eds L = eds M) := ⟨_, rfl⟩
  rw [← hR]
  rw [← eqP_eds] at hR
  by_cases hn : L.length = M.length
  · replace hR := hide hR
    obtain ⟨n, hln⟩ : ∃ n, n = L.length := ⟨_, rfl⟩
    have hmn : n = M.length := by omega
    rw [← hln] at hlc ⊢
    rw [← hmn] at hmc ⊢
    have hlI := hide hln
    have hmI := hide hmn
    clear hn hln hmn
    go_enter Tryz.func20, Tryz.ntmps20
    go_wp2_with fail
    go_loopg [5] n (fun gh i wr => ∃ (k : Nat), i = .int .i64 k ∧ k + gh = n ∧ Hid (R = eqP (fun x y : Ve => decide (x.2 = y.2)) (L.drop k) (M.drop k)) ∧ Ext w wr)
    case atStart => exact ⟨0, rfl, by omega, hR, Ext.refl w⟩
    case round =>
      obtain ⟨k, rfl, hk, hRk, hX⟩ := hrel
      clear hR
      by_cases hlt : k < n
      · obtain ⟨x, hx⟩ : ∃ x, L[k]? = some x := ⟨_, List.getElem?_eq_getElem (by have := hlI.out; omega)⟩
        obtain ⟨y, hy⟩ : ∃ y, M[k]? = some y := ⟨_, List.getElem?_eq_getElem (by have := hmI.out; omega)⟩
        obtain ⟨b, o, rfl, -, hb, c0, c1, c2⟩ := hat.out k x hx
        obtain ⟨b', o', rfl, -, hb', d0, d1, d2⟩ := hbt.out k y hy
        have k0 := cell_later hX c0
        have k1 := cell_later hX c1
        have k2 := cell_later hX c2
        have j0 := cell_later hX d0
        have j1 := cell_later hX d1
        have j2 := cell_later hX d2
        have hbr : b < wr.heap.size := block_lt_of_cell k0
        have hbr' : b' < wr.heap.size := block_lt_of_cell j0
        haveI : In b wr := ⟨hbr⟩
        haveI : In b' wr := ⟨hbr'⟩
        have hrx := Sl.ext (hrl.out x (List.mem_of_getElem? hx)) hX
        have hry := Sl.ext (hrm.out y (List.mem_of_getElem? hy)) hX
        have hR2 := hRk.out
        rw [drop_cons hx, drop_cons hy] at hR2
        obtain ⟨xv, xq, xa, xn⟩ := x
        obtain ⟨yv, yq, ya, yn⟩ := y
        simp only at k0 k1 k2 j0 j1 j2 hrx hry
        have hq := hide (fun w' (hXw : Ext wr w') => refRowSame_c (Sl.ext hrx hXw) (Sl.ext hry hXw))
        obtain ⟨XA, xcap, rfl⟩ := rw_val hrx
        obtain ⟨YA, ycap, rfl⟩ := rw_val hry
        have hyes : Hid ((xq, (xa, xn)) = (yq, (ya, yn)) → R = eqP (fun x y : Ve => decide (x.2 = y.2)) (L.drop (k + 1)) (M.drop (k + 1))) := fun h => by
          rw [hR2]; exact eqP_yes (p := (fun x y : Ve => decide (x.2 = y.2))) (x := (.slice XA xq.length xcap, xq, xa, xn)) (y := (.slice YA yq.length ycap, yq, ya, yn)) (decide_eq_true h)
        have hno : Hid ((xq, (xa, xn)) ≠ (yq, (ya, yn)) → R = false) := fun h => by
          rw [hR2]; exact eqP_no (p := (fun x y : Ve => decide (x.2 = y.2))) (x := (.slice XA xq.length xcap, xq, xa, xn)) (y := (.slice YA yq.length ycap, yq, ya, yn)) (decide_eq_false h)
        clear c0 c1 c2 d0 d1 d2 hat hbt hx hy hlI hmI hRk hrx hry hrl hrm hR2
        by_cases e1 : xa = ya
        · by_cases e2 : xn = yn
          · subst e1; subst e2
            by_cases e3 : xq = yq
            · have hf := hide (hyes.out (by rw [e3]))
              rw [decide_eq_true e3] at hq
              have b1 : (xa == xa) = true := by simp
              have b2 : (xn == xn) = true := by simp
              replace e3 := hide e3
              clear hyes hno
              go_wp2_with fail
              refine wp_region_gw (by kernel_rfl) (by kernel_rfl) ?_
              repeat (go_big_quiet_step ((go_at_call 17; with_reducible exact quiet_gw (hq.out _ (GW.grown _)))))
              refine wpQuiet_nil ?_
              intro g
              go_wp2_with fail
              go_roundg (n - (k + 1))
              case measure => omega
              case rel => exact ⟨k + 1, by go_num, by omega, hf, hX.trans g.grown⟩
            · have hf := hide (hno.out (fun h => e3 (Prod.mk.inj h).1))
              rw [decide_eq_false e3] at hq
              have b1 : (xa == xa) = true := by simp
              have b2 : (xn == xn) = true := by simp
              replace e3 := hide e3
              clear hyes hno
              go_wp2_with fail
              refine wp_region_gw (by kernel_rfl) (by kernel_rfl) ?_
              repeat (go_big_quiet_step ((go_at_call 17; with_reducible exact quiet_gw (hq.out _ (GW.grown _)))))
              refine wpQuiet_nil ?_
              intro g
              go_wp2_with fail
              go_returns
              exact ⟨by rw [hf.out]; rfl, hX.trans g.grown⟩
          · subst e1
            have hf := hide (hno.out (fun h => e2 (Prod.mk.inj (Prod.mk.inj h).2).2))
            have b1 : (xa == xa) = true := by simp
            have b2 : (xn == yn) = false := by rw [beq_eq_false_iff_ne]; exact e2
            replace e2 := hide e2
            clear hyes hno hq
            go_wp2_with fail
            refine wp_region_gw (by kernel_rfl) (by kernel_rfl) ?_
            repeat (go_big_quiet_step (fail))
            refine wpQuiet_nil ?_
            intro g
            go_wp2_with fail
            go_returns
            exact ⟨by rw [hf.out]; rfl, hX.trans g.grown⟩
        · have hf := hide (hno.out (fun h => e1 (Prod.mk.inj (Prod.mk.inj h).2).1))
          have b1 : (xa == ya) = false := by rw [beq_eq_false_iff_ne]; exact e1
          replace e1 := hide e1
          clear hyes hno hq
          go_wp2_with fail
          refine wp_region_gw (by kernel_rfl) (by kernel_rfl) ?_
          repeat (go_big_quiet_step (fail))
          refine wpQuiet_nil ?_
          intro g
          go_wp2_with fail
          go_returns
          exact ⟨by rw [hf.out]; rfl, hX.trans g.grown⟩
      · have hk' : k = n := by omega
        have hge : (n : Int) ≤ k := by omega
        have hR2 := hRk.out
        rw [List.drop_eq_nil_of_le (by have := hlI.out; omega), List.drop_eq_nil_of_le (by have := hmI.out; omega)] at hR2
        replace hR2 : R = true := hR2
        replace hR2 := hide hR2
        replace hk' := hide hk'
        go_wp2_with fail
        go_returns
        exact ⟨by rw [hR2.out]; rfl, hX⟩
  · have hR2 := hR.trans (eqP_len hn)
    replace hR2 := hide hR2
    have hnI : ¬ (L.length : Int) = M.length := by omega
    clear hR hn
    go_enter Tryz.func20, Tryz.ntmps20
    go_wp2_with fail
    go_returns
    exact ⟨by rw [hR2.out]; rfl, Ext.refl w⟩
end Go.Proofs.YtiknkcadbaeknaaGreat
