/-
  A helper of ours: no claim of its own. Layer 11 (pack): what must be whatever is asked.
-/
import Derived.Test.YtgniebjigphcgaaGreatEdgB
import Derived.Test.YtgniebjigphcgaaGreatSpanA
import Derived.Test.YtgniebjigphcgaaGreatEdgU
import Derived.Test.YtgniebjigphcgaaGreatEdgO
import Derived.Test.YtgniebjigphcgaaGreatEdgGx
import Derived.Test.YtgniebjigphcgaaGreatPakD
import Derived.Test.YtgniebjigphcgaaGreatEdgGs
import Derived.Test.YtgniebjigphcgaaGreatEdgEn
import Derived.Sort.LoopGhostIn
set_option linter.unusedVariables false
set_option linter.unusedSimpArgs false
namespace Go.Proofs.YtgniebjigphcgaaGreat
open Go.RowKit
attribute [local go_sem] GW.cell GW.frozen In.eq_true In.le_true In.ne In.ne' In.ne_add In.ne_add' In.lt_add Upto.le_true Upto.le_add Upto.lt_add
theorem eql_spn (a b c d : Int) (w : World) : (binOp .eql 30 (jm (a, b)) (jm (c, d))).run Tryz.prog w = .ok (.bool (a == c && b == d)) w := by
  by_cases h1 : a = c <;> by_cases h2 : b = d <;> simp [go_sem, h1, h2]
theorem neq_spn (a b c d : Int) (w : World) : (binOp .neq 30 (jm (a, b)) (jm (c, d))).run Tryz.prog w = .ok (.bool (!(a == c && b == d))) w := by
  by_cases h1 : a = c <;> by_cases h2 : b = d <;> simp [go_sem, h1, h2]
/-- A lifetime of what was there ahead of all ticks. -/
def fbB (j : Jp) : Bool := decide (j.1 = -1 ∧ 0 ≤ j.2 ∧ j.2 ≤ 1125899906842624)
/-- A piece: a row, and a lifetime. -/
def mayPc (e : Ed) : Bool := mayR e.1 && (smayB e.2.1 e.2.2 || fbB e.2)
set_option maxHeartbeats 1000000 in
theorem fromBefore_c (a b : Int) (w : World) : Calls Tryz.prog 55 #[.agg #[.int .i64 a, .int .i64 b]] w fun e w' => e = .returned (.bool (fbB (a, b))) ∧ Ext w w' := by
  obtain ⟨R, hR⟩ : ∃ R, R = fbB (a, b) := ⟨_, rfl⟩
  rw [← hR]
  unfold fbB at hR
  simp only at hR
  by_cases h1 : a = -1
  · subst h1
    by_cases h2 : 0 ≤ b
    · by_cases h3 : b ≤ 1125899906842624
      · have hf := hide (show R = true by rw [hR, decide_eq_true_iff]; omega)
        clear hR
        have d2 : decide (0 ≤ b) = true := decide_eq_true h2
        have d3 : decide (b ≤ 1125899906842624) = true := decide_eq_true h3
        go_enter Tryz.func55, Tryz.ntmps55
        go_wp2_with fail
        go_returns
        exact ⟨by rw [hf.out]; first | rfl | simp [d2, d3], (Ext.refl w).alloc _⟩
      · have hf := hide (show R = false by rw [hR, decide_eq_false_iff_not]; omega)
        clear hR
        have d2 : decide (0 ≤ b) = true := decide_eq_true h2
        have d3 : decide (b ≤ 1125899906842624) = false := decide_eq_false h3
        go_enter Tryz.func55, Tryz.ntmps55
        go_wp2_with fail
        go_returns
        exact ⟨by rw [hf.out]; first | rfl | simp [d2, d3], (Ext.refl w).alloc _⟩
    · have hf := hide (show R = false by rw [hR, decide_eq_false_iff_not]; omega)
      clear hR
      have d2 : decide (0 ≤ b) = false := decide_eq_false h2
      go_enter Tryz.func55, Tryz.ntmps55
      go_wp2_with fail
      go_returns
      exact ⟨by rw [hf.out]; first | rfl | simp [d2], (Ext.refl w).alloc _⟩
  · have hf := hide (show R = false by rw [hR, decide_eq_false_iff_not]; omega)
    have b1 : (a == -1) = false := by rw [beq_eq_false_iff_ne]; exact h1
    clear hR
    replace h1 := hide h1
    go_enter Tryz.func55, Tryz.ntmps55
    go_wp2_with fail
    go_returns
    exact ⟨by rw [hf.out]; first | rfl | simp [b1], (Ext.refl w).alloc _⟩
set_option maxHeartbeats 4000000 in
theorem pcMay_c (q : List Vl) (j : Jp) (v : Value) (w : World) (h : Rw w [] v q) : Calls Tryz.prog 22 #[em v j] w fun e w' => e = .returned (.bool (mayPc (q, j))) ∧ Ext w w' := by
  obtain ⟨a, b⟩ := j
  have h1 := hide (fun w' (hX : Ext w w') => rowMay_c q v w' (Sl.ext h hX))
  have h2 := hide (fun w => smay_c a b w)
  have h3 := hide (fun w => fromBefore_c a b w)
  obtain ⟨A, cap, rfl⟩ := rw_val h
  have hX0 := hide ((Ext.refl w).alloc (.cells #[.slice A q.length cap, .int .i64 a, .int .i64 b] 48))
  have he : mayPc (q, (a, b)) = (mayR q && (smayB a b || fbB (a, b))) := rfl
  rw [he]
  generalize mayR q = m1 at *
  generalize smayB a b = m2 at *
  generalize fbB (a, b) = m3 at *
  clear h he
  cases m1
  · go_enter Tryz.func22, Tryz.ntmps22
    go_wp2_with (go_at_call 53; (with_reducible refine seq_gw (h1.out _ hX0.out) ?_); intro g)
    go_returns
    exact ⟨rfl, hX0.out.trans g.grown⟩
  cases m2
  · go_enter Tryz.func22, Tryz.ntmps22
    go_wp2_with (first | (go_at_call 53; (with_reducible refine seq_gw (h1.out _ hX0.out) ?_); intro g) | (go_at_call 54; (with_reducible refine seq_gw' (h2.out _) ?_); intro g2) | (go_at_call 55; (with_reducible refine seq_gw' (h3.out _) ?_); intro g3))
    go_returns
    exact ⟨by first | rfl | simp, hX0.out.trans g3.grown⟩
  · go_enter Tryz.func22, Tryz.ntmps22
    go_wp2_with (first | (go_at_call 53; (with_reducible refine seq_gw (h1.out _ hX0.out) ?_); intro g) | (go_at_call 54; (with_reducible refine seq_gw' (h2.out _) ?_); intro g2))
    go_returns
    exact ⟨by first | rfl | simp, hX0.out.trans g2.grown⟩
set_option maxHeartbeats 1000000 in
theorem pcNone_c (q : List Vl) (j : Jp) (v : Value) (w : World) (h : Rw w [] v q) : Calls Tryz.prog 50 #[em v j] w fun e w' => e = .returned (.bool (!mayPc (q, j))) ∧ Ext w w' := by
  have h1 := hide (fun w' (hX : Ext w w') => pcMay_c q j v w' (Sl.ext h hX))
  obtain ⟨a, b⟩ := j
  obtain ⟨A, cap, rfl⟩ := rw_val h
  have hX0 := hide ((Ext.refl w).alloc (.cells #[.slice A q.length cap, .int .i64 a, .int .i64 b] 48))
  generalize mayPc (q, (a, b)) = m at *
  clear h
  go_enter Tryz.func50, Tryz.ntmps50
  go_wp2_with (go_at_call 22; (with_reducible refine seq_gw (h1.out _ hX0.out) ?_); intro g)
  go_returns
  exact ⟨by first | rfl | simp, hX0.out.trans g.grown⟩
attribute [local go_sem] eql_spn neq_spn
set_option maxHeartbeats 2000000 in
theorem indexPc_c (L : List Ve) (v : Value) (w : World) (h : Ew w [] v L) : Calls Tryz.prog 80 #[v, .func (.func 50) #[] #[]] w fun e w' => e = .returned (.int .i64 (idxP (fun x : Ve => mayPc x.2) 0 L)) ∧ Ext w w' := by
  obtain ⟨A, cap, rfl, hl, hm, hat⟩ := ew_form h
  unfold maxLen at hm
  replace hat := hide hat
  have hrows := hide h.2
  clear h
  obtain ⟨R, hR⟩ : ∃ R, R = idxP (fun x : Ve => mayPc x.2) 0 L := ⟨_, rfl⟩
  rw [← hR]
  replace hR := hide hR
  go_enter Tryz.func80, Tryz.ntmps80
  go_wp2_with fail
  go_loopg [8] L.length (fun gh i wr => ∃ (k : Nat), i = .int .i64 k ∧ k + gh = L.length ∧ Hid (R = idxP (fun x : Ve => mayPc x.2) k (L.drop k)) ∧ Ext w wr)
  case atStart => exact ⟨0, rfl, by omega, by simpa using hR, Ext.refl w⟩
  case round =>
    obtain ⟨k, rfl, hk, hRk, hX⟩ := hrel
    clear hR
    by_cases hlt : k < L.length
    · obtain ⟨x, hx⟩ : ∃ x, L[k]? = some x := ⟨_, List.getElem?_eq_getElem hlt⟩
      obtain ⟨b, o, rfl, -, hb, c0, c1, c2⟩ := hat.out k x hx
      have k0 := cell_later hX c0
      have k1 := cell_later hX c1
      have k2 := cell_later hX c2
      have hbr : b < wr.heap.size := block_lt_of_cell k0
      have hrw := Sl.ext (hrows.out x (List.mem_of_getElem? hx)) hX
      have hR2 := hRk.out
      rw [drop_cons hx] at hR2
      obtain ⟨xv, xq, xa, xn⟩ := x
      simp only at k0 k1 k2 hrw
      have hin := hide (fun w' (hXw : Ext wr w') => pcNone_c xq (xa, xn) xv w' (Sl.ext hrw hXw))
      have hX00 := hide (Ext.refl wr)
      obtain ⟨XA, xcap, rfl⟩ := rw_val hrw
      clear c0 c1 c2 hat hx hrows hrw
      cases hmx : mayPc (xq, (xa, xn))
      · rw [hmx] at hin
        rw [idxP_no (p := (fun x : Ve => mayPc x.2)) (x := (.slice XA xq.length xcap, xq, xa, xn)) hmx] at hR2
        replace hR2 := hide hR2
        replace hmx := hide hmx
        go_wp2_with (go_at_call 50; (with_reducible refine seq_gw (hin.out _ hX00.out) ?_); intro g)
        go_returns
        exact ⟨by rw [hR2.out]; rfl, hX.trans g.grown⟩
      · rw [hmx] at hin
        rw [idxP_yes (p := (fun x : Ve => mayPc x.2)) (x := (.slice XA xq.length xcap, xq, xa, xn)) hmx] at hR2
        replace hR2 := hide hR2
        replace hmx := hide hmx
        go_wp2_with (go_at_call 50; (with_reducible refine seq_gw (hin.out _ hX00.out) ?_); intro g)
        go_roundg (L.length - (k + 1))
        case measure => omega
        case rel => exact ⟨k + 1, by go_num, by omega, hR2, hX.trans g.grown⟩
    · have hk' : k = L.length := by omega
      have hge : (L.length : Int) ≤ k := by omega
      have hR2 := hRk.out
      rw [hk', List.drop_length] at hR2
      replace hR2 := hide hR2
      replace hk' := hide hk'
      go_wp2_with fail
      go_returns
      exact ⟨by rw [hR2.out]; rfl, hX⟩
set_option maxHeartbeats 1000000 in
theorem containsPc_c (L : List Ve) (v : Value) (w : World) (h : Ew w [] v L) : Calls Tryz.prog 49 #[v, .func (.func 50) #[] #[]] w fun e w' => e = .returned (.bool (!L.all (fun x : Ve => mayPc x.2))) ∧ Ext w w' := by
  have hc := hide (indexPc_c L v w h)
  have e := hide (idxP_ge (fun x : Ve => mayPc x.2) 0 L)
  generalize idxP (fun x : Ve => mayPc x.2) 0 L = z at *
  obtain ⟨A, cap, rfl, -, -, -⟩ := ew_form h
  clear h
  go_enter Tryz.func49, Tryz.ntmps49
  go_wp2_with (go_at_call 80; (with_reducible refine seq_gw hc.out ?_); intro g)
  go_returns
  exact ⟨by rw [← e.out]; first | rfl | simp, g.grown⟩
set_option maxHeartbeats 2000000 in
theorem psame_c (q : List Vl) (j : Jp) (v : Value) (r : List Vl) (k : Jp) (u : Value) (w : World) (hq : Rw w [] v q) (hr : Rw w [] u r) : Calls Tryz.prog 60 #[em v j, em u k] w fun e w' => e = .returned (.bool (decide ((q, j) = (r, k)))) ∧ Ext w w' := by
  obtain ⟨jp, jn⟩ := j
  obtain ⟨kp, kn⟩ := k
  have h1 := hide (fun w' (hX : Ext w w') => rowSame_c (Sl.ext hq hX) (Sl.ext hr hX))
  obtain ⟨A, cap, rfl⟩ := rw_val hq
  obtain ⟨B, cap2, rfl⟩ := rw_val hr
  have hX0 := hide (((Ext.refl w).alloc (.cells #[.slice A q.length cap, .int .i64 jp, .int .i64 jn] 48)).alloc (.cells #[.slice B r.length cap2, .int .i64 kp, .int .i64 kn] 48))
  obtain ⟨R, hR⟩ : ∃ R, R = decide ((q, (jp, jn)) = (r, (kp, kn))) := ⟨_, rfl⟩
  rw [← hR]
  by_cases e1 : jp = kp
  · by_cases e2 : jn = kn
    · subst e1; subst e2
      have hf := hide (show R = decide (q = r) by rw [hR]; simp)
      clear hR hq hr
      generalize decide (q = r) = m at *
      go_enter Tryz.func60, Tryz.ntmps60
      go_wp2_with (go_at_call 63; (with_reducible refine seq_gw (h1.out _ hX0.out) ?_); intro g)
      go_returns
      exact ⟨by rw [hf.out]; first | rfl | simp, hX0.out.trans g.grown⟩
    · subst e1
      have hf := hide (show R = false by rw [hR]; simp [e2])
      have b2 : (jn == kn) = false := by rw [beq_eq_false_iff_ne]; exact e2
      clear hR hq hr h1
      replace e2 := hide e2
      go_enter Tryz.func60, Tryz.ntmps60
      go_wp2_with fail
      go_returns
      exact ⟨by rw [hf.out]; first | rfl | simp [b2], hX0.out⟩
  · have hf := hide (show R = false by rw [hR]; simp [e1])
    have b1 : (jp == kp) = false := by rw [beq_eq_false_iff_ne]; exact e1
    clear hR hq hr h1
    replace e1 := hide e1
    go_enter Tryz.func60, Tryz.ntmps60
    go_wp2_with fail
    go_returns
    exact ⟨by rw [hf.out]; first | rfl | simp [b1], hX0.out⟩
set_option maxHeartbeats 4000000 in
set_option maxRecDepth 100000 in
theorem equalPc_c {L M : List Ve} {v u : Value} {w : World} (hl : Ew w [] v L) (hm : Ew w [] u M) : Calls Tryz.prog 59 #[v, u, .func (.func 60) #[] #[]] w fun e w' => e = .returned (.bool (eqP (fun x y : Ve => decide (x.2 = y.2)) L M)) ∧ Ext w w' := by
  obtain ⟨A, cap, rfl, hlc, hlm, hat⟩ := ew_form hl
  obtain ⟨B, cap2, rfl, hmc, hmm, hbt⟩ := ew_form hm
  unfold maxLen at hlm hmm
  have hrl := hide hl.2
  have hrm := hide hm.2
  clear hl hm
  replace hat := hide hat
  replace hbt := hide hbt
  obtain ⟨R, hR⟩ : ∃ R, R = eqP (fun x y : Ve => decide (x.2 = y.2)) L M := ⟨_, rfl⟩
  rw [← hR]
  by_cases hn : L.length = M.length
  · replace hR := hide hR
    obtain ⟨n, hln⟩ : ∃ n, n = L.length := ⟨_, rfl⟩
    have hmn : n = M.length := by omega
    rw [← hln] at hlc ⊢
    rw [← hmn] at hmc ⊢
    have hlI := hide hln
    have hmI := hide hmn
    clear hn hln hmn
    go_enter Tryz.func59, Tryz.ntmps59
    go_wp2_with fail
    go_loopg [17] n (fun gh i wr => ∃ (k : Nat), i = .int .i64 k ∧ k + gh = n ∧ Hid (R = eqP (fun x y : Ve => decide (x.2 = y.2)) (L.drop k) (M.drop k)) ∧ Ext w wr)
    case atStart => exact ⟨0, rfl, by omega, hR, Ext.refl w⟩
    case round =>
      obtain ⟨k, rfl, hk, hRk, hX⟩ := hrel
      clear hR
      by_cases hlt : k < n
      · obtain ⟨x, hx⟩ : ∃ x, L[k]? = some x := ⟨_, List.getElem?_eq_getElem (by have := hlI.out; omega)⟩
        obtain ⟨y, hy⟩ : ∃ y, M[k]? = some y := ⟨_, List.getElem?_eq_getElem (by have := hmI.out; omega)⟩
        obtain ⟨b, o, rfl, -, hb, c0, c1, c2⟩ := hat.out k x hx
        obtain ⟨b', o', rfl, -, hb', d0, d1, d2⟩ := hbt.out k y hy
        have k0 := cell_later hX c0
        have k1 := cell_later hX c1
        have k2 := cell_later hX c2
        have j0 := cell_later hX d0
        have j1 := cell_later hX d1
        have j2 := cell_later hX d2
        have hbr : b < wr.heap.size := block_lt_of_cell k0
        have hbr' : b' < wr.heap.size := block_lt_of_cell j0
        have hrx := Sl.ext (hrl.out x (List.mem_of_getElem? hx)) hX
        have hry := Sl.ext (hrm.out y (List.mem_of_getElem? hy)) hX
        have hR2 := hRk.out
        rw [drop_cons hx, drop_cons hy] at hR2
        obtain ⟨xv, xq, xa, xn⟩ := x
        obtain ⟨yv, yq, ya, yn⟩ := y
        simp only at k0 k1 k2 j0 j1 j2 hrx hry
        have hq := hide (fun w' (hXw : Ext wr w') => psame_c xq (xa, xn) xv yq (ya, yn) yv w' (Sl.ext hrx hXw) (Sl.ext hry hXw))
        obtain ⟨XA, xcap, rfl⟩ := rw_val hrx
        obtain ⟨YA, ycap, rfl⟩ := rw_val hry
        have hX1 := hide (((Ext.refl wr).alloc (.cells #[.slice XA xq.length xcap, .int .i64 xa, .int .i64 xn] 48)).alloc (.cells #[.slice YA yq.length ycap, .int .i64 ya, .int .i64 yn] 48))
        clear c0 c1 c2 d0 d1 d2 hat hbt hx hy hlI hmI hRk hrx hry hrl hrm
        by_cases hp : (xq, (xa, xn)) = (yq, (ya, yn))
        · rw [eqP_yes (p := (fun x y : Ve => decide (x.2 = y.2))) (x := (.slice XA xq.length xcap, xq, xa, xn)) (y := (.slice YA yq.length ycap, yq, ya, yn)) (decide_eq_true hp)] at hR2
          rw [decide_eq_true hp] at hq
          replace hR2 := hide hR2
          replace hp := hide hp
          go_wp2_with (go_at_call 60; (with_reducible refine seq_gw (hq.out _ hX1.out) ?_); intro g)
          go_roundg (n - (k + 1))
          case measure => omega
          case rel => exact ⟨k + 1, by go_num, by omega, hR2, (hX.trans hX1.out).trans g.grown⟩
        · rw [eqP_no (p := (fun x y : Ve => decide (x.2 = y.2))) (x := (.slice XA xq.length xcap, xq, xa, xn)) (y := (.slice YA yq.length ycap, yq, ya, yn)) (decide_eq_false hp)] at hR2
          rw [decide_eq_false hp] at hq
          replace hR2 := hide hR2
          replace hp := hide hp
          go_wp2_with (go_at_call 60; (with_reducible refine seq_gw (hq.out _ hX1.out) ?_); intro g)
          go_returns
          exact ⟨by rw [hR2.out]; rfl, (hX.trans hX1.out).trans g.grown⟩
      · have hk' : k = n := by omega
        have hge : (n : Int) ≤ k := by omega
        have hR2 := hRk.out
        rw [List.drop_eq_nil_of_le (by have := hlI.out; omega), List.drop_eq_nil_of_le (by have := hmI.out; omega)] at hR2
        replace hR2 : R = true := hR2
        replace hR2 := hide hR2
        replace hk' := hide hk'
        go_wp2_with fail
        go_returns
        exact ⟨by rw [hR2.out]; rfl, hX⟩
  · have hR2 := hR.trans (eqP_len hn)
    replace hR2 := hide hR2
    have hnI : ¬ (L.length : Int) = M.length := by omega
    clear hR hn
    go_enter Tryz.func59, Tryz.ntmps59
    go_wp2_with fail
    go_returns
    exact ⟨by rw [hR2.out]; rfl, Ext.refl w⟩
set_option maxHeartbeats 1000000 in
theorem pieceSame_c {L M : List Ve} {v u : Value} {w : World} (hl : Ew w [] v L) (hm : Ew w [] u M) : Calls Tryz.prog 24 #[v, u] w fun e w' => e = .returned (.bool (decide (eds L = eds M))) ∧ Ext w w' := by
  have hc := hide (equalPc_c hl hm)
  rw [eqP_eds] at hc
  generalize decide (eds L = eds M) = b at *
  obtain ⟨A, cap, rfl, -, -, -⟩ := ew_form hl
  obtain ⟨B, cap2, rfl, -, -, -⟩ := ew_form hm
  clear hl hm
  go_enter Tryz.func24, Tryz.ntmps24
  go_wp2_with (go_at_call 59; (with_reducible refine seq_gw hc.out ?_); intro g)
  go_returns
  exact ⟨rfl, g.grown⟩
set_option maxHeartbeats 8000000 in
set_option maxRecDepth 100000 in
theorem refPieceSame_c {L M : List Ve} {v u : Value} {w : World} (hl : Ew w [] v L) (hm : Ew w [] u M) : Calls Tryz.prog 16 #[v, u] w fun e w' => e = .returned (.bool (decide (eds L = eds M))) ∧ Ext w w' := by
  obtain ⟨A, cap, rfl, hlc, hlm, hat⟩ := ew_form hl
  obtain ⟨B, cap2, rfl, hmc, hmm, hbt⟩ := ew_form hm
  unfold maxLen at hlm hmm
  have hrl := hide hl.2
  have hrm := hide hm.2
  clear hl hm
  replace hat := hide hat
  replace hbt := hide hbt
  obtain ⟨R, hR⟩ : ∃ R, R = decide (eds L = eds M) := ⟨_, rfl⟩
  rw [← hR]
  rw [← eqP_eds] at hR
  by_cases hn : L.length = M.length
  · replace hR := hide hR
    obtain ⟨n, hln⟩ : ∃ n, n = L.length := ⟨_, rfl⟩
    have hmn : n = M.length := by omega
    rw [← hln] at hlc ⊢
    rw [← hmn] at hmc ⊢
    have hlI := hide hln
    have hmI := hide hmn
    clear hn hln hmn
    go_enter Tryz.func16, Tryz.ntmps16
    go_wp2_with fail
    go_loopg [5] n (fun gh i wr => ∃ (k : Nat), i = .int .i64 k ∧ k + gh = n ∧ Hid (R = eqP (fun x y : Ve => decide (x.2 = y.2)) (L.drop k) (M.drop k)) ∧ Ext w wr)
    case atStart => exact ⟨0, rfl, by omega, hR, Ext.refl w⟩
    case round =>
      obtain ⟨k, rfl, hk, hRk, hX⟩ := hrel
      clear hR
      by_cases hlt : k < n
      · obtain ⟨x, hx⟩ : ∃ x, L[k]? = some x := ⟨_, List.getElem?_eq_getElem (by have := hlI.out; omega)⟩
        obtain ⟨y, hy⟩ : ∃ y, M[k]? = some y := ⟨_, List.getElem?_eq_getElem (by have := hmI.out; omega)⟩
        obtain ⟨b, o, rfl, -, hb, c0, c1, c2⟩ := hat.out k x hx
        obtain ⟨b', o', rfl, -, hb', d0, d1, d2⟩ := hbt.out k y hy
        have k0 := cell_later hX c0
        have k1 := cell_later hX c1
        have k2 := cell_later hX c2
        have j0 := cell_later hX d0
        have j1 := cell_later hX d1
        have j2 := cell_later hX d2
        have hbr : b < wr.heap.size := block_lt_of_cell k0
        have hbr' : b' < wr.heap.size := block_lt_of_cell j0
        haveI : In b wr := ⟨hbr⟩
        haveI : In b' wr := ⟨hbr'⟩
        have hrx := Sl.ext (hrl.out x (List.mem_of_getElem? hx)) hX
        have hry := Sl.ext (hrm.out y (List.mem_of_getElem? hy)) hX
        have hR2 := hRk.out
        rw [drop_cons hx, drop_cons hy] at hR2
        obtain ⟨xv, xq, xa, xn⟩ := x
        obtain ⟨yv, yq, ya, yn⟩ := y
        simp only at k0 k1 k2 j0 j1 j2 hrx hry
        have hq := hide (fun w' (hXw : Ext wr w') => refRowSame_c (Sl.ext hrx hXw) (Sl.ext hry hXw))
        obtain ⟨XA, xcap, rfl⟩ := rw_val hrx
        obtain ⟨YA, ycap, rfl⟩ := rw_val hry
        have hyes : Hid ((xq, (xa, xn)) = (yq, (ya, yn)) → R = eqP (fun x y : Ve => decide (x.2 = y.2)) (L.drop (k + 1)) (M.drop (k + 1))) := fun h => by
          rw [hR2]; exact eqP_yes (p := (fun x y : Ve => decide (x.2 = y.2))) (x := (.slice XA xq.length xcap, xq, xa, xn)) (y := (.slice YA yq.length ycap, yq, ya, yn)) (decide_eq_true h)
        have hno : Hid ((xq, (xa, xn)) ≠ (yq, (ya, yn)) → R = false) := fun h => by
          rw [hR2]; exact eqP_no (p := (fun x y : Ve => decide (x.2 = y.2))) (x := (.slice XA xq.length xcap, xq, xa, xn)) (y := (.slice YA yq.length ycap, yq, ya, yn)) (decide_eq_false h)
        clear c0 c1 c2 d0 d1 d2 hat hbt hx hy hlI hmI hRk hrx hry hrl hrm hR2
        by_cases e1 : xa = ya
        · by_cases e2 : xn = yn
          · subst e1; subst e2
            by_cases e3 : xq = yq
            · have hf := hide (hyes.out (by rw [e3]))
              rw [decide_eq_true e3] at hq
              have b1 : (xa == xa) = true := by simp
              have b2 : (xn == xn) = true := by simp
              replace e3 := hide e3
              clear hyes hno
              go_wp2_with fail
              refine wp_region_gw (by kernel_rfl) (by kernel_rfl) ?_
              repeat (go_big_quiet_step ((go_at_call 48; with_reducible exact quiet_gw (hq.out _ (GW.grown _)))))
              refine wpQuiet_nil ?_
              intro g
              go_wp2_with fail
              go_roundg (n - (k + 1))
              case measure => omega
              case rel => exact ⟨k + 1, by go_num, by omega, hf, hX.trans g.grown⟩
            · have hf := hide (hno.out (fun h => e3 (Prod.mk.inj h).1))
              rw [decide_eq_false e3] at hq
              have b1 : (xa == xa) = true := by simp
              have b2 : (xn == xn) = true := by simp
              replace e3 := hide e3
              clear hyes hno
              go_wp2_with fail
              refine wp_region_gw (by kernel_rfl) (by kernel_rfl) ?_
              repeat (go_big_quiet_step ((go_at_call 48; with_reducible exact quiet_gw (hq.out _ (GW.grown _)))))
              refine wpQuiet_nil ?_
              intro g
              go_wp2_with fail
              go_returns
              exact ⟨by rw [hf.out]; rfl, hX.trans g.grown⟩
          · subst e1
            have hf := hide (hno.out (fun h => e2 (Prod.mk.inj (Prod.mk.inj h).2).2))
            have b1 : (xa == xa) = true := by simp
            have b2 : (xn == yn) = false := by rw [beq_eq_false_iff_ne]; exact e2
            replace e2 := hide e2
            clear hyes hno hq
            go_wp2_with fail
            refine wp_region_gw (by kernel_rfl) (by kernel_rfl) ?_
            repeat (go_big_quiet_step (fail))
            refine wpQuiet_nil ?_
            intro g
            go_wp2_with fail
            go_returns
            exact ⟨by rw [hf.out]; rfl, hX.trans g.grown⟩
        · have hf := hide (hno.out (fun h => e1 (Prod.mk.inj (Prod.mk.inj h).2).1))
          have b1 : (xa == ya) = false := by rw [beq_eq_false_iff_ne]; exact e1
          replace e1 := hide e1
          clear hyes hno hq
          go_wp2_with fail
          refine wp_region_gw (by kernel_rfl) (by kernel_rfl) ?_
          repeat (go_big_quiet_step (fail))
          refine wpQuiet_nil ?_
          intro g
          go_wp2_with fail
          go_returns
          exact ⟨by rw [hf.out]; rfl, hX.trans g.grown⟩
      · have hk' : k = n := by omega
        have hge : (n : Int) ≤ k := by omega
        have hR2 := hRk.out
        rw [List.drop_eq_nil_of_le (by have := hlI.out; omega), List.drop_eq_nil_of_le (by have := hmI.out; omega)] at hR2
        replace hR2 : R = true := hR2
        replace hR2 := hide hR2
        replace hk' := hide hk'
        go_wp2_with fail
        go_returns
        exact ⟨by rw [hR2.out]; rfl, hX⟩
  · have hR2 := hR.trans (eqP_len hn)
    replace hR2 := hide hR2
    have hnI : ¬ (L.length : Int) = M.length := by omega
    clear hR hn
    go_enter Tryz.func16, Tryz.ntmps16
    go_wp2_with fail
    go_returns
    exact ⟨by rw [hR2.out]; rfl, Ext.refl w⟩
end Go.Proofs.YtgniebjigphcgaaGreat
set_option linter.unusedVariables false
set_option linter.unusedSimpArgs false
namespace Go.Proofs.YtgniebjigphcgaaGreat
open Go.RowKit
attribute [local go_sem] GW.cell GW.frozen In.eq_true In.le_true In.ne In.ne' In.ne_add In.ne_add' In.lt_add Upto.le_true Upto.le_add Upto.lt_add
/-- Both ends of each piece. -/
def endsE (l : List Ed) : List Ed := l.flatMap fun e => [(e.1, (e.2.1, 1)), (e.1, (e.2.2, -1))]
def endsV (L : List Ve) : List Ve := L.flatMap fun p => [(p.1, p.2.1, (p.2.2.1, 1)), (p.1, p.2.1, (p.2.2.2, -1))]
theorem endsV_eds (L : List Ve) : eds (endsV L) = endsE (eds L) := by
  induction L with
  | nil => rfl
  | cons p r ih =>
    unfold endsV endsE eds at ih ⊢
    rw [List.flatMap_cons, List.map_append, ih]
    rfl
theorem endsV_len (L : List Ve) : (endsV L).length = 2 * L.length := by
  induction L with
  | nil => rfl
  | cons p r ih =>
    unfold endsV at ih ⊢
    rw [List.flatMap_cons, List.length_append, ih, List.length_cons]
    simp only [List.length_cons, List.length_nil]
    omega
theorem endsV_snoc (L : List Ve) (p : Ve) : endsV (L ++ [p]) = endsV L ++ [(p.1, p.2.1, (p.2.2.1, 1)), (p.1, p.2.1, (p.2.2.2, -1))] := by simp [endsV]
theorem endsV_mem {L : List Ve} {q : Ve} (h : q ∈ endsV L) : ∃ p ∈ L, q.1 = p.1 ∧ q.2.1 = p.2.1 := by
  obtain ⟨p, hp, h⟩ := List.mem_flatMap.1 h
  simp only [List.mem_cons, List.not_mem_nil, or_false] at h
  rcases h with rfl | rfl <;> exact ⟨p, hp, rfl, rfl⟩
/-- What is wrong with pieces whose edges are asked for; they. -/
def pkE (l : List Ed) : Int := if l.all mayPc then (if 4096 < l.length then 7 else neE (endsE l)) else 2
def pkR (l : List Ed) : List Ed := if pkE l = 0 then neR (endsE l) else []
set_option maxHeartbeats 4000000 in
set_option maxRecDepth 100000 in
theorem packEdges_c (L : List Ve) (hL : L.length ≤ 4096) (v : Value) (w : World) (h : Ew w [] v L) : Calls Tryz.prog 17 #[v] w fun e w' => ∃ v' M, e = .returned (.tuple #[v', .int .i64 (pkE (eds L))]) ∧ eds M = pkR (eds L) ∧ OwnEr w' w.heap.size v' M ∧ Ext w w' := by
  have hcc := hide (containsPc_c L v w h)
  have hall : L.all (fun x : Ve => mayPc x.2) = (eds L).all mayPc := by simp [eds, List.all_map]; rfl
  rw [hall] at hcc
  obtain ⟨A, cap, rfl, hlc, hlm, hat⟩ := ew_form h
  unfold maxLen at hlm
  have hv := hide h
  replace hat := hide hat
  obtain ⟨E, hE⟩ : ∃ E, E = pkE (eds L) := ⟨_, rfl⟩
  obtain ⟨R, hR⟩ : ∃ R, R = pkR (eds L) := ⟨_, rfl⟩
  rw [← hE, ← hR]
  unfold pkR at hR
  rw [← hE] at hR
  unfold pkE at hE
  clear h hall
  cases ha : (eds L).all mayPc
  · rw [ha] at hcc hE
    rw [if_neg (by decide)] at hE
    subst hE
    replace hR : R = [] := by rw [hR, if_neg (by decide)]
    replace hR := hide hR
    clear hat
    go_enter Tryz.func17, Tryz.ntmps17
    go_wp2_with (go_at_call 49; (with_reducible refine seq_gw hcc.out ?_); intro g)
    go_returns
    exact ⟨_, [], rfl, by rw [hR.out]; rfl, OwnEr.nil _ _, g.grown⟩
  rw [ha] at hcc hE
  rw [if_pos rfl, if_neg (by simp [eds]; omega)] at hE
  have hR2 : Hid (R = neR (endsE (eds L))) := by
    show R = _
    rw [hR]
    split
    · rfl
    · rename_i h; rw [hE] at h; rw [neR_bad h]
  replace hE := hide hE
  clear hR ha
  have hLI : (L.length : Int) ≤ 4096 := by omega
  go_enter Tryz.func17, Tryz.ntmps17
  go_wp2_with (go_at_call 49; (with_reducible refine seq_gw hcc.out ?_); intro g)
  have hXg := hide g.grown
  go_loopg [4, 14] L.length (fun gh vv i wr => ∃ (k : Nat), i = .int .i64 k ∧ k + gh = L.length ∧ OwnE wr w.heap.size vv (endsV (L.take k)) ∧ Ext w wr)
  case atStart => exact ⟨0, rfl, by omega, World.ownsRow_nil _ _ _ _, hXg.out⟩
  case round =>
    obtain ⟨k, rfl, hk, ho, hX⟩ := hrel
    clear hXg
    have hzX := hX.size
    by_cases hlt : k < L.length
    · obtain ⟨x, hx⟩ : ∃ x, L[k]? = some x := ⟨_, List.getElem?_eq_getElem hlt⟩
      obtain ⟨b, o, rfl, -, hb, c0, c1, c2⟩ := hat.out k x hx
      have k0 := cell_later hX c0
      have k1 := cell_later hX c1
      have k2 := cell_later hX c2
      have hbr : b < wr.heap.size := block_lt_of_cell k0
      have hrw := Sl.ext (hv.out.2 x (List.mem_of_getElem? hx)) hX
      have hnx := hide (show endsV (L.take (k + 1)) = endsV (L.take k) ++ [(x.1, x.2.1, (x.2.2.1, 1)), (x.1, x.2.1, (x.2.2.2, -1))] by rw [List.take_add_one, hx, Option.toList_some, endsV_snoc])
      have hel : (endsV (L.take k)).length ≤ 2 * k := by rw [endsV_len, List.length_take]; omega
      obtain ⟨xv, xq, xa, xn⟩ := x
      simp only at k0 k1 k2 hrw hnx
      have hrw2 := hide hrw
      obtain ⟨XA, xcap, rfl⟩ := rw_val hrw
      obtain ⟨Q, hQ⟩ : ∃ Q, Q = endsV (L.take k) := ⟨_, rfl⟩
      rw [← hQ] at ho hnx hel
      replace hQ := hide hQ
      obtain ⟨C, ccap, rfl⟩ := own_form ho
      have ho0 := hide ho
      clear c0 c1 c2 hat hx hrw hv ho
      have hone := lit2 (.slice XA xq.length xcap) xq (xa, 1) (xn, -1) (wr.alloc (.cells #[.slice XA xq.length xcap, .int .i64 xa, .int .i64 xn] 48)) (Sl.ext hrw2.out ((Ext.refl wr).alloc _))
      simp only [World.size_alloc] at hone
      replace hone := hide hone
      have hX2 : Ext wr ((wr.alloc (.cells #[.slice XA xq.length xcap, .int .i64 xa, .int .i64 xn] 48)).alloc (.cells #[.slice XA xq.length xcap, .int .i64 xa, .int .i64 1, .slice XA xq.length xcap, .int .i64 xn, .int .i64 (-1)] 71)) := ((Ext.refl wr).alloc _).alloc _
      have e1 : Q.length + 2 ≤ maxLen := by unfold maxLen; omega
      have e2 : (Q.length + 2) * 40 ≤ 140737488355328 := by omega
      have e3 := Nat.le_trans hX.size hX2.size
      replace e1 := hide e1
      replace e2 := hide e2
      replace e3 := hide e3
      have hsl : Sl _ [] 3 _ 2 _ := hone.out.1
      replace hsl := hide hsl
      replace hX2 := hide hX2
      go_wp2_with (at_builtin; (refine wpl_app tEdg rfl (.tmp 18) (.tmp 31) rfl rfl (own_ext ho0.out hX2.out) rfl (src_sl Tryz.underlying32 hsl.out (Ew.one hone.out) (by omega)) e1.out e2.out e3.out ?_; intro v8 w8 ho8 hg8 hob8; have hX8 := hide (ext_grown (hX.trans hX2.out) hg8 (fun q hq => (ho0.out.lt q hq).1))))
      go_roundg (L.length - (k + 1))
      case measure => omega
      case rel => exact ⟨k + 1, by go_num, by omega, by rw [hnx.out]; exact own_appE ho8, hX8.out⟩
    · have hk' : k = L.length := by omega
      have hge : (L.length : Int) ≤ k := by omega
      rw [hk', List.take_length] at ho
      replace hk' := hide hk'
      have hM : Ew wr [] u4 (endsV L) := ⟨Sl.own ho (by simp), fun p hp => by
        obtain ⟨q, hq, e1, e2⟩ := endsV_mem hp
        rw [e1, e2]
        exact Sl.ext (hv.out.2 q hq) hX⟩
      have hn := hide (edgeNorm_c (endsV L) (by rw [endsV_len]; omega) (fun q => Nat.le_trans (jmps_le _ q) (by rw [eds, List.length_map, endsV_len]; omega)) u4 wr hM)
      rw [endsV_eds] at hn
      obtain ⟨C, ccap, rfl⟩ := own_form ho
      clear hat hM ho hv
      go_wp2_with (go_at_call 51; refine hn.out.mono ?_; rintro ee w3 ⟨v3, M, rfl, hM, ho3, hX3⟩)
      go_returns
      exact ⟨_, M, by rw [hE.out]; rfl, by rw [hM, hR2.out], ho3.lower hzX, hX.trans hX3⟩
end Go.Proofs.YtgniebjigphcgaaGreat
set_option linter.unusedVariables false
set_option linter.unusedSimpArgs false
namespace Go.Proofs.YtgniebjigphcgaaGreat
open Go.RowKit
attribute [local go_sem] GW.cell GW.frozen In.eq_true In.le_true In.ne In.ne' In.ne_add In.ne_add' In.lt_add Upto.le_true Upto.le_add Upto.lt_add
abbrev OwnPp (w : World) (base : Nat) (v : Value) (L : List Ve) : Prop := w.ownsRow base 48 3 v L.length (ec L)
theorem tPc : ElemT Tryz.prog 33 48 (.agg #[.slice none 0 0, .int .i64 0, .int .i64 0]) 3 40 := ElemT.mk' Tryz.underlying33 (by kernel_rfl) rfl (by omega)
theorem own_appP {w : World} {B : Nat} {v : Value} {L M : List Ve} (h : w.ownsRow B 48 3 v (L.length + M.length) (ec L ++ ec M)) : OwnPp w B v (L ++ M) := by
  unfold OwnPp; rw [List.length_append, ec_append]; exact h
/-- Pieces of one's own, with rows of one's own. -/
def OwnPr (w : World) (base : Nat) (v : Value) (L : List Ve) : Prop := OwnPp w base v L ∧ ∀ p ∈ L, Rw w (ob v ++ List.range base) p.1 p.2.1
section
variable {w w' : World} {base : Nat} {v v' : Value} {L M : List Ve}
theorem OwnPr.nil (w : World) (base : Nat) : OwnPr w base (.slice none 0 0) [] := ⟨World.ownsRow_nil _ _ _ _, by simp⟩
theorem OwnPr.ext (h : OwnPr w base v L) (k : Ext w w') : OwnPr w' base v L := ⟨own_ext h.1 k, fun p hp => Sl.ext (h.2 p hp) k⟩
theorem OwnPr.lower {b : Nat} (h : OwnPr w base v L) (hb : b ≤ base) : OwnPr w b v L := ⟨own_base h.1 hb, fun p hp => Sl.less (h.2 p hp) fun k hk => by
  rcases List.mem_append.1 hk with hk | hk
  · exact List.mem_append_left _ hk
  · exact List.mem_append_right _ (List.mem_range.2 (by have := List.mem_range.1 hk; omega))⟩
theorem OwnPr.ew (h : OwnPr w base v L) : Ew w [] v L := ⟨Sl.own h.1 (by simp), fun p hp => Sl.less (h.2 p hp) (by simp)⟩
theorem OwnPr.app (h : OwnPr w base v L) (ho : OwnPp w' base v' (L ++ M)) (hg : w.grownBy w' v.ownBlock) (hv : v'.ownBlock = v.ownBlock ∨ v'.ownBlock = some w.heap.size) (hM : ∀ p ∈ M, ∃ S, Rw w S p.1 p.2.1 ∧ ∀ k ∈ ob v ++ List.range base, k ∈ S) : OwnPr w' base v' (L ++ M) := by
  refine ⟨ho, fun p hp => ?_⟩
  rcases List.mem_append.1 hp with hp | hp
  · exact rw_app (h.2 p hp) (fun k hk => List.mem_append_left _ hk) (fun k hk => List.mem_append_right _ hk) hg hv
  · obtain ⟨S, hS, hk⟩ := hM p hp
    exact rw_app hS (fun k h => hk k (List.mem_append_left _ h)) (fun k h => hk k (List.mem_append_right _ h)) hg hv
end
def pcF (S : List Nat) (r : List Vl) (j : Jp) : Fact := .st (fun u w => ∃ A cp, u = em (.slice A r.length cp) j ∧ Rw w S (.slice A r.length cp) r) (fun _ _ _ h k => by obtain ⟨A, cp, e, h⟩ := h; exact ⟨A, cp, e, Sl.ext h k⟩)
def oneP (S : List Nat) (r : List Vl) (j : Jp) : Fact := .st (fun v w => ∃ u, Sl w [] 3 v 1 (ec1 (u, r, j)) ∧ Rw w S u r) (fun _ _ _ h k => by obtain ⟨u, h1, h2⟩ := h; exact ⟨u, Sl.ext h1 k, Sl.ext h2 k⟩)
theorem buildP1 (A : Option Addr) (n cap : Nat) (x : Jp) (w : World) : (Instr.buildSlice 33 1 #[(0, em (.slice A n cap) x)]).run Tryz.prog w = .ok (.slice (some ⟨w.heap.size, 0, none⟩) 1 1) (w.alloc (.cells #[.slice A n cap, .int .i64 x.1, .int .i64 x.2] 48)) := by
  simp [go_sem]
theorem oneP_new (u : Value) (r : List Vl) (x : Jp) (w : World) : Sl (w.alloc (.cells #[u, .int .i64 x.1, .int .i64 x.2] 48)) [] 3 (.slice (some ⟨w.heap.size, 0, none⟩) 1 1) 1 (ec1 (u, r, x)) :=
  Sl.own (World.ownsRow_lit (base := w.heap.size) (e := 48) (size := 3) w #[u, .int .i64 x.1, .int .i64 x.2] 1 (Nat.le_refl _) (by decide) rfl) (by simp)
/-- A row lies in no box of a slice. -/
theorem rw_box {W : World} {S : List Nat} {v : Value} {r : List Vl} {b : Nat} {T : TypeId} {A : Option Addr} {n cap : Nat} (h : Rw W S v r) (o : Ob W b T [.slice A n cap]) : Rw W (b :: S) v r := by
  obtain ⟨B, k, rfl, h1, h2, h3, h4⟩ := h
  refine ⟨B, k, rfl, h1, h2, h3, ?_⟩
  rcases h4 with h4 | ⟨c, p, e, hcS, hc⟩
  · exact .inl h4
  · rcases r with _ | ⟨x, r⟩
    · exact .inl rfl
    · refine .inr ⟨c, p, e, ?_, hc⟩
      intro hcb
      rcases List.mem_cons.1 hcb with hcb | hcb
      · subst hcb
        have q := hc 0 (.int .i64 x.1) rfl
        rw [cell_of_row W c (p + 0) _ T (0, 0) o] at q
        rcases p with _ | p
        · simp at q
        · simp at q
      · exact hcS hcb
/-- Edges lie in no box of a slice. -/
theorem rw_boxp {W : World} {S : List Nat} {v : Value} {r : List Vl} {b : Nat} {T : TypeId} {A : Option Addr} {n cap : Nat} {u : Value} (h : Rw W S v r) (o : Ob W b T [u]) (hu : u = .slice A n cap) : Rw W (b :: S) v r := by
  subst hu; exact rw_box h o
theorem ew_box {W : World} {S : List Nat} {v : Value} {L : List Ve} {b : Nat} {T : TypeId} {A : Option Addr} {n cap : Nat} (h : Ew W S v L) (o : Ob W b T [.slice A n cap]) : Ew W (b :: S) v L := by
  refine ⟨?_, fun p hp => rw_box (h.2 p hp) o⟩
  obtain ⟨B, k, rfl, h1, h2, h3, h4⟩ := h.1
  refine ⟨B, k, rfl, h1, h2, h3, ?_⟩
  rcases h4 with h4 | ⟨c, p, e, hcS, hc⟩
  · exact .inl h4
  · rcases L with _ | ⟨x, L⟩
    · exact .inl rfl
    · refine .inr ⟨c, p, e, ?_, hc⟩
      intro hcb
      rcases List.mem_cons.1 hcb with hcb | hcb
      · subst hcb
        have q := hc 1 (.int .i64 x.2.2.1) rfl
        rw [cell_of_row W c (p + 1) _ T (0, 0) o] at q
        simp at q
      · exact hcS hcb
/-- The pieces of rows, each with its function. -/
def lifeP (q : List Vl) (f : List Jp) : List Ed := (lifeL f).map fun s => (q, s)
def piecesL (G : List Gp) : List Ed := G.flatMap fun g => lifeP g.1 g.2
theorem piecesL_snoc (G : List Gp) (g : Gp) : piecesL (G ++ [g]) = piecesL G ++ lifeP g.1 g.2 := by simp [piecesL]
theorem lifeL_len (f : List Jp) : ((lifeL f).length : Int) = cntJ f := by unfold lifeL cntJ; rw [spL_length]
theorem piecesL_pre (G : List Gp) (k : Nat) : (piecesL (G.take k)).length ≤ (piecesL G).length := by
  conv => rhs; rw [← List.take_append_drop k G]
  unfold piecesL
  rw [List.flatMap_append, List.length_append]
  omega
/-- What is wrong with edges whose pieces are asked for; they. -/
def pcE (l : List Ed) : Int := if mayE l then (if tabE l then (if 4096 < (piecesL (grp l)).length then 7 else 0) else 20) else 2
def pcR (l : List Ed) : List Ed := if pcE l = 0 then piecesL (grp l) else []
/-- The state in which pieces are appended: what was there before (world W) is left alone, but for the list and its box. -/
structure PS (B0 b4 : Nat) (W wr : World) (mv0 mv : Value) (M : List Ve) : Prop where
  fr : Fr (ob mv0 ++ [b4]) W wr
  ob4 : Ob wr b4 33 [mv]
  own : OwnPr wr B0 mv M
  blk : ∀ k, mv.ownBlock = some k → mv0.ownBlock = some k ∨ W.heap.size ≤ k
theorem PS.keep {B0 b4 : Nat} {W wr w1 w8 : World} {mv0 mv v8 : Value} {M : List Ve} (h : PS B0 b4 W wr mv0 mv M) (hX : Ext wr w1) (hg : w1.grownBy w8 mv.ownBlock) {base e size n : Nat} {v : Value} {xs : List Value} (ho : wr.ownsRow base e size v n xs) (he : e ≠ 48) (hb : e ≠ 33) :
    (w8.setCell ⟨b4, 0, none⟩ v8).ownsRow base e size v n xs := by
  have h1 := own_ext ho hX
  refine own_keep h1 fun g hgo => ?_
  obtain ⟨cur, hh⟩ := own_heap h1 hgo
  have hlt := lt_of_block hh
  have hne : g ≠ b4 := by
    rintro rfl
    have o4 := h.ob4.ext hX
    unfold Ob at o4
    rw [hh] at o4
    injection o4 with o4
    injection o4 with _ e2
    exact hb e2
  rw [Below.heap_setCell w8 ⟨b4, 0, none⟩ v8 g hne]
  refine hg.block g hlt fun e2 => ?_
  obtain ⟨cur2, hh2⟩ := own_heap (own_ext h.own.1 hX) e2.symm
  rw [hh] at hh2
  injection hh2 with hh2
  injection hh2 with _ e3
  exact he e3
theorem PS.app {C0 : Option Addr} {n0 c0 : Nat} {B0 b4 : Nat} {W wr w1 w8 : World} {mv0 mv v8 : Value} {M : List Ve} {p : Ve} {S : List Nat} (h : PS B0 b4 W wr mv0 mv M) (hX : Ext wr w1) (ho : OwnPp w8 B0 v8 (M ++ [p])) (hg : w1.grownBy w8 mv.ownBlock) (hb : v8.ownBlock = mv.ownBlock ∨ v8.ownBlock = some w1.heap.size)
    (hp : Rw w1 S p.1 p.2.1) (hS : ∀ k, k < wr.heap.size → k ∈ S) (hB : B0 ≤ wr.heap.size) (hm : mv = .slice C0 n0 c0) : PS B0 b4 W (w8.setCell ⟨b4, 0, none⟩ v8) mv0 v8 (M ++ [p]) := by
  have hne : mv.ownBlock ≠ some b4 := (h.ob4.ext hX).not_own (own_ext h.own.1 hX) (by decide)
  have h8 : OwnPr w8 B0 v8 (M ++ [p]) := (h.own.ext hX).app ho hg hb fun x hx => by
    obtain rfl := List.mem_singleton.1 hx
    refine ⟨S, hp, fun k hk => hS k ?_⟩
    rcases List.mem_append.1 hk with hk | hk
    · exact (ob_ge h.own.1 k hk).2
    · have := List.mem_range.1 hk; omega
  have o8 : Ob w8 b4 33 [mv] := (h.ob4.ext hX).grown hg (Ne.symm hne)
  have hne8 := o8.not_own ho (by decide)
  have hlt := h.ob4.lt
  refine ⟨?_, o8.set 0 _, ⟨own_setB ho o8 (by decide) _, fun x hx => ?_⟩, fun k hk => ?_⟩
  · refine (((h.fr.then (S' := []) (Fr.of_ext hX) (by simp)).grown hg fun k hk => ?_).setCell ⟨b4, 0, none⟩ _ (.inl (by simp)))
    rcases h.blk k hk with e | e
    · exact .inl (List.mem_append_left _ (by unfold ob; rw [e]; simp))
    · exact .inr e
  · exact Sl.less (Sl.set (rw_boxp (h8.2 x hx) o8 hm) ⟨b4, 0, none⟩ _ (by simp)) (fun y hy => List.mem_cons_of_mem _ hy)
  · rcases hb with e | e
    · rw [e] at hk; exact h.blk k hk
    · rw [e] at hk
      obtain rfl : w1.heap.size = k := Option.some.inj hk
      exact .inr (Nat.le_trans h.fr.size hX.size)
end Go.Proofs.YtgniebjigphcgaaGreat
set_option linter.unusedVariables false
set_option linter.unusedSimpArgs false
namespace Go.Proofs.YtgniebjigphcgaaGreat
open Go.RowKit
attribute [local go_sem] GW.cell GW.frozen In.eq_true In.le_true In.ne In.ne' In.ne_add In.ne_add' In.lt_add Upto.le_true Upto.le_add Upto.lt_add Oper.semAt_some wide_depth wide_fn
/-- Blocks that are none of the loop's. -/
def Fb3 (bx : Nat) (b : Nat) (W : World) : Prop := ∃ mv, Ob W bx 33 [mv] ∧ (b ≠ bx ∧ (mv.ownBlock ≠ some b ∧ b < W.heap.size))
theorem Fb3.stab (B bx b : Nat) : Stab B (Fb3 bx b) := Stab.ex fun mv => (Stab.ob _ _ _).and ((Stab.pure _).and ((Stab.pure _).and ⟨fun A C h e => Nat.lt_of_lt_of_le h e.size, fun A l o o' h _ _ _ => by simpa using h⟩))
abbrev I3 (w : World) (b2 b3 b4 B0 : Nat) (G : List Gp) (k : Nat) (W : World) : Prop :=
  (Ob W b2 33 [.slice none 0 0] ∧ Ob W b3 26 [.int .i64 0]) ∧ ((∃ mv, ∃ M : List Ve, (Ob W b4 33 [mv] ∧ (OwnPp W B0 mv M ∧ ∀ p, ∀ (_ : p ∈ M), Rw W (ob mv ++ List.range B0) p.1 p.2.1)) ∧ (eds M = piecesL (G.take k) ∧ M.length ≤ 4096)) ∧ (Ext w W ∧ B0 ≤ W.heap.size))
theorem I3.stab (w : World) (b2 b3 b4 B0 : Nat) (G : List Gp) (k B : Nat) (hB : w.heap.size ≤ B) : Stab B (I3 w b2 b3 b4 B0 G k) :=
  ((Stab.ob _ _ _).and (Stab.ob _ _ _)).and ((Stab.ex fun mv => Stab.ex fun N => ((Stab.ob _ _ _).and ((Stab.own _ _ _ _ _ _).and (Stab.all fun p => Stab.all fun _ => Stab.sl _ _ _ _ _))).and (Stab.pure _)).and ((Stab.of_ext hB).and ⟨fun A C h e => Nat.le_trans h e.size, fun A l o o' h _ _ _ => by simpa using h⟩))
abbrev Ix3 (w : World) (b2 b3 : Nat) (G : List Gp) (c : Code) (k : Nat) (W : World) : Prop :=
  (c = .ret ∧ 4096 < (piecesL G).length) ∧ ((Ob W b2 33 [.slice none 0 0] ∧ Ob W b3 26 [.int .i64 7]) ∧ Ext w W)
theorem Ix3.stab (w : World) (b2 b3 : Nat) (G : List Gp) (c : Code) (k B : Nat) (hB : w.heap.size ≤ B) : Stab B (Ix3 w b2 b3 G c k) :=
  (Stab.pure _).and (((Stab.ob _ _ _).and (Stab.ob _ _ _)).and (Stab.of_ext hB))
set_option maxHeartbeats 8000000 in
set_option maxRecDepth 100000 in
theorem pieces_c (L : List Ve) (v : Value) (w : World) (hC : Ew w [] v L) : Calls Tryz.prog 14 #[v] w fun e w' => ∃ v' M, e = .returned (.tuple #[v', .int .i64 (pcE (eds L))]) ∧ eds M = pcR (eds L) ∧ OwnPr w' w.heap.size v' M ∧ Ext w w' := by
  have h1 := hide (fun w' (hX : Ext w w') => edgeMay_c L v w' (hC.ext hX))
  have h2 := hide (fun w' (hX : Ext w w') => edgeTable_c L v w' (hC.ext hX))
  have hgr := hide (fun w' (hX : Ext w w') => groups_c L v w' (hC.ext hX))
  obtain ⟨A, cap, rfl, hlc, hlm, -⟩ := ew_form hC
  unfold maxLen at hlm
  clear hC
  obtain ⟨E, hE⟩ : ∃ E, E = pcE (eds L) := ⟨_, rfl⟩
  obtain ⟨R, hR⟩ : ∃ R, R = pcR (eds L) := ⟨_, rfl⟩
  rw [← hE, ← hR]
  unfold pcR at hR
  rw [← hE] at hR
  unfold pcE at hE
  obtain ⟨Wb, hWb⟩ : ∃ Wb, Wb = (w.alloc (.cells #[.slice none 0 0] 33)).alloc (.cells #[.int .i64 0] 26) := ⟨_, rfl⟩
  have hX0 : Ext w Wb := by rw [hWb]; exact ((Ext.refl w).alloc _).alloc _
  have a2 : Ob Wb w.heap.size 33 [.slice none 0 0] := by rw [hWb]; exact (Ob.new w 33 [.slice none 0 0]).alloc _
  have a3 : Ob Wb (w.heap.size + 1) 26 [.int .i64 0] := by rw [hWb]; have := Ob.new (w.alloc (.cells #[.slice none 0 0] 33)) 26 [.int .i64 0]; rwa [World.size_alloc] at this
  have hX0h := hide hX0
  refine calls_marks Tryz.func14 rfl ?_
  simp only [Tryz.ntmps14, List.size_toArray, List.length_cons, List.length_nil, Nat.reduceAdd, Nat.reduceSub, Array.replicate_succ, Array.replicate_zero, List.push_toArray, List.append_toArray, List.nil_append, List.cons_append]
  have hb23 : w.heap.size ≠ w.heap.size + 1 := by omega
  cases ha : mayE (eds L)
  · rw [ha] at h1 hE
    rw [if_neg (by decide)] at hE
    subst hE
    replace hR : R = [] := by rw [hR, if_neg (by decide)]
    replace hR := hide hR
    go_wp2_with (go_at_call 40; (with_reducible refine seq_gw (h1.out _ (by rw [← hWb]; exact hX0h.out)) ?_); intro g)
    have o2 : Ob ((g.val.setCell ⟨w.heap.size, 0, none⟩ (.slice none 0 0)).setCell ⟨w.heap.size + 1, 0, none⟩ (.int .i64 2)) w.heap.size 33 [.slice none 0 0] := (((hWb ▸ a2).ext g.grown).set 0 _).far _ _ hb23
    have o3 : Ob ((g.val.setCell ⟨w.heap.size, 0, none⟩ (.slice none 0 0)).setCell ⟨w.heap.size + 1, 0, none⟩ (.int .i64 2)) (w.heap.size + 1) 26 [.int .i64 2] := (((hWb ▸ a3).ext g.grown).far ⟨w.heap.size, 0, none⟩ _ (Ne.symm hb23)).set 0 _
    have q2 := o2.cell 0 rfl
    have q3 := o3.cell 0 rfl
    exact ret_plain (v := .tuple #[.slice none 0 0, .int .i64 2]) (by simp [results, Tryz.f14, go_sem, q2, q3]) ⟨_, [], rfl, by rw [hR.out]; rfl, OwnPr.nil _ _, (((hWb ▸ hX0).trans g.grown).setCell (p := ⟨w.heap.size, 0, none⟩) (by simp) _).setCell (p := ⟨w.heap.size + 1, 0, none⟩) (by show w.heap.size ≤ w.heap.size + 1; omega) _⟩
  rw [ha] at h1 hE
  rw [if_pos rfl] at hE
  cases hb : tabE (eds L)
  · rw [hb] at h2 hE
    rw [if_neg (by decide)] at hE
    subst hE
    replace hR : R = [] := by rw [hR, if_neg (by decide)]
    replace hR := hide hR
    go_wp2_with (first | (go_at_call 40; (with_reducible refine seq_gw (h1.out _ (by rw [← hWb]; exact hX0h.out)) ?_); intro g0) | (go_at_call 41; (with_reducible refine seq_gw' (h2.out _ ((by rw [← hWb]; exact hX0h.out : Ext w ((w.alloc (.cells #[.slice none 0 0] 33)).alloc (.cells #[.int .i64 0] 26))).trans g0.grown)) ?_); intro g))
    have o2 : Ob ((g.val.setCell ⟨w.heap.size, 0, none⟩ (.slice none 0 0)).setCell ⟨w.heap.size + 1, 0, none⟩ (.int .i64 20)) w.heap.size 33 [.slice none 0 0] := (((hWb ▸ a2).ext g.grown).set 0 _).far _ _ hb23
    have o3 : Ob ((g.val.setCell ⟨w.heap.size, 0, none⟩ (.slice none 0 0)).setCell ⟨w.heap.size + 1, 0, none⟩ (.int .i64 20)) (w.heap.size + 1) 26 [.int .i64 20] := (((hWb ▸ a3).ext g.grown).far ⟨w.heap.size, 0, none⟩ _ (Ne.symm hb23)).set 0 _
    have q2 := o2.cell 0 rfl
    have q3 := o3.cell 0 rfl
    exact ret_plain (v := .tuple #[.slice none 0 0, .int .i64 20]) (by simp [results, Tryz.f14, go_sem, q2, q3]) ⟨_, [], rfl, by rw [hR.out]; rfl, OwnPr.nil _ _, (((hWb ▸ hX0).trans g.grown).setCell (p := ⟨w.heap.size, 0, none⟩) (by simp) _).setCell (p := ⟨w.heap.size + 1, 0, none⟩) (by show w.heap.size ≤ w.heap.size + 1; omega) _⟩
  rw [hb] at h2 hE
  rw [if_pos rfl] at hE
  have hGm : Hid (∀ g ∈ grp (eds L), (mayJ g.2 = true ∧ 0 ≤ leV g.2) ∧ g.1.length ≤ 8 ∧ g.2.length ≤ 1024) := fun g hg => by
    have hj := (mayE_iff.1 ha).2.2 g hg
    refine ⟨⟨hj, ?_⟩, grp_r8 ha g hg, mayJ_len hj⟩
    have h5 := hb
    unfold tabE at h5
    rw [Bool.and_eq_true, List.all_eq_true] at h5
    exact of_decide_eq_true (h5.2 g hg)
  have hLl : L.length ≤ 4096 := by have := mayE_len ha; simpa [eds] using this
  have ha' := hide ha
  clear ha hb
  replace hE := hide hE
  replace hR := hide hR
  go_wp2_with (first | (go_at_call 40; (with_reducible refine seq_gw (h1.out _ (by rw [← hWb]; exact hX0h.out)) ?_); intro g0) | (go_at_call 41; (with_reducible refine seq_gw' (h2.out _ ((by rw [← hWb]; exact hX0h.out : Ext w ((w.alloc (.cells #[.slice none 0 0] 33)).alloc (.cells #[.int .i64 0] 26))).trans g0.grown)) ?_); intro g) | (go_at_call 42; refine (hgr.out _ (((by rw [← hWb]; exact hX0h.out : Ext w ((w.alloc (.cells #[.slice none 0 0] 33)).alloc (.cells #[.int .i64 0] 26))).trans g.grown).alloc _)).mono ?_; rintro ee w1 ⟨b, rfl, v1, M, hb, hM, hMe, hX1⟩))
  rw [if_pos ha'.out] at hM
  have p2 : Ob w1 w.heap.size 33 [.slice none 0 0] := ((((hWb ▸ a2 : Ob ((w.alloc (.cells #[.slice none 0 0] 33)).alloc (.cells #[.int .i64 0] 26)) w.heap.size 33 [.slice none 0 0])).ext g.grown).alloc _).ext hX1
  have p3 : Ob w1 (w.heap.size + 1) 26 [.int .i64 0] := ((((hWb ▸ a3 : Ob ((w.alloc (.cells #[.slice none 0 0] 33)).alloc (.cells #[.int .i64 0] 26)) (w.heap.size + 1) 26 [.int .i64 0])).ext g.grown).alloc _).ext hX1
  have p4 : Ob w1 g.val.heap.size 33 [.slice none 0 0] := (Ob.new g.val 33 [.slice none 0 0]).ext hX1
  have hXw : Ext w w1 := (((hWb ▸ hX0 : Ext w ((w.alloc (.cells #[.slice none 0 0] 33)).alloc (.cells #[.int .i64 0] 26))).trans g.grown).alloc _).trans hX1
  have hl34 : w.heap.size + 1 < g.val.heap.size := by have := ((hWb ▸ a3 : Ob ((w.alloc (.cells #[.slice none 0 0] 33)).alloc (.cells #[.int .i64 0] 26)) (w.heap.size + 1) 26 [.int .i64 0]).ext g.grown).lt; exact this
  clear h1 h2 hgr hWb a2 a3 hX0 hX0h hX1 ha'
  generalize hb4 : g.val.heap.size = b4 at *
  generalize hb3 : w.heap.size + 1 = b3 at *
  have hMx := hide (ew_box hMe p4)
  rw [← hM] at hGm hE
  have hML : M.length ≤ 4096 := by have := congrArg List.length hM; simp only [eds, List.length_map] at this; omega
  have hzw := hXw.size
  replace hM := hide hM
  refine wp_rangeX2 (X := [b4]) (xs := grp (eds M)) rfl (enters_of Tryz.func77 (by kernel_rfl) rfl) (groups_seqx [b4] M v1 w1 w1 b hMx.out (by omega) (fun g hg => Nat.le_trans (hGm.out g hg).2.1 (by omega)) (Ext.refl _) hb) (Ext.refl _) (Nat.le_refl _) (fun x vs W h => h.size) (fun x vs => Hgg.stab x vs)
    (Fb3 b4) (fun b => Fb3.stab _ b4 b) (I3 w w.heap.size b3 b4 w1.heap.size (grp (eds M)))
    (fun k A o ⟨_, ⟨mv, N, ⟨o1, o2, _⟩, _⟩, _⟩ => ⟨mv, o1.alloc o, (by have := o1.lt; omega), (fun h => by have := (o2.lt _ h).2; omega), by simp⟩)
    (Ix3 w w.heap.size b3 (grp (eds M)))
    (fun k => I3.stab w _ _ _ _ _ k _ hzw)
    (fun c k => Ix3.stab w _ _ _ c k _ hzw)
    ⟨⟨p2, p3⟩, ⟨_, [], ⟨p4, World.ownsRow_nil _ _ _ _, by simp⟩, by simp [piecesL, eds], by simp⟩, hXw, Nat.le_refl _⟩
    (fun k x vs a' _ => ∃ r f, vs = #[r, f] ∧ a' = { tmps := #[.slice A L.length cap, undef, .pointer (some ⟨w.heap.size, 0, none⟩), .pointer (some ⟨b3, 0, none⟩), .pointer (some ⟨b4, 0, none⟩), r, f, undef, undef, .slice A L.length cap, .bool true, .bool false, .slice A L.length cap, .bool true, .bool false, .slice A L.length cap, .func (.func 77) #[] #[.pointer (some ⟨b, 0, none⟩)], r, f, undef, undef, undef, undef, undef, undef, undef, undef, undef, undef, undef, undef, undef, undef, undef, undef, undef, undef, undef, undef, undef, undef], defers := [] })
    (fun k x vs a' => Stab.pure _) ?assign ?body ?done ?stop
  case assign =>
    rintro LL k x vs W K _ ⟨r, f, rfl, -, -⟩ hK
    gi_wp2
    exact hK _ _ (Ext.refl _) ⟨r, f, rfl, rfl⟩
  case body =>
    rintro LL k x vs a' W hx ⟨⟨o2, o3⟩, ⟨mv, N, ⟨o4, hNo, hNr⟩, hNe, hNl⟩, hXk, h1W⟩ ⟨r', f', e', hr, hf⟩ ⟨r, f, rfl, rfl⟩
    obtain ⟨rfl, rfl⟩ : r = r' ∧ f = f' := by simpa using e'
    obtain ⟨q, J⟩ := x
    obtain ⟨⟨hJm, hJ0⟩, hq8, hJl⟩ := hGm.out (q, J) (List.mem_of_getElem? hx)
    simp only at hJm hJ0 hq8 hJl
    have hnx := hide (show piecesL ((grp (eds M)).take (k + 1)) = piecesL ((grp (eds M)).take k) ++ lifeP q J by rw [List.take_add_one, hx, Option.toList_some, piecesL_snoc])
    have hpre := piecesL_pre (grp (eds M)) (k + 1)
    rw [hnx.out, List.length_append] at hpre
    have hNl2 : N.length = (piecesL ((grp (eds M)).take k)).length := by rw [← hNe]; simp [eds]
    rw [← hNl2] at hpre
    have hPl : (lifeP q J).length = (lifeL J).length := by unfold lifeP; rw [List.length_map]
    rw [hPl] at hpre
    have hcI := lifeL_len J
    have hcb := cntJ_le (f := J) (fun j hj => by
      have := (mayJ_iff.1 hJm).2.1 j hj
      unfold okJ at this
      rw [decide_eq_true_iff] at this
      omega)
    obtain ⟨c, hc⟩ : ∃ c, c = (lifeL J).length := ⟨_, rfl⟩
    rw [← hc] at hpre hcI
    have hcb2 : (c : Int) ≤ 1073741824 := by omega
    have hcount := hide (fun w' (hX : Ext W w') => count_c J hJm f w' (Sl.ext (own_jw (S := []) hf (by simp)) hX))
    rw [← hcI] at hcount
    have hlife := hide (fun (h4 : c ≤ 4096) w' (hX : Ext W w') => lifetimes_c J hJm hJ0 (by rw [← hcI]; omega) f w' (Sl.ext (own_jw (S := []) hf (by simp)) hX))
    have hr' := hide hr
    have hf' := hide hf
    obtain ⟨RA, rcap, rfl⟩ := own_form hr
    obtain ⟨JA, jcap, rfl⟩ := own_form hf
    have hNo' := hide hNo
    obtain ⟨MA, mcap, rfl⟩ := own_form hNo
    have q4 := hide (o4.cell 0 rfl)
    have o4' := hide o4
    have o2' := hide o2
    have o3' := hide o3
    replace hNe := hide hNe
    replace hNr := hide hNr
    replace hc := hide hc
    have hXk' := hide hXk
    clear hx hr hf hNo o4 hNl2 hPl hcI hcb hJm hJ0 o2 o3 hXk
    gi_wp2
    refine wpIn_region_list_tail 4 [(.is (.slice MA N.length mcap)), (.is (.int .i64 N.length)), (.is (.slice JA J.length jcap)), (.is (.int .i64 c))] (by kernel_rfl) (by kernel_rfl) (by kernel_rfl) (by kernel_rfl) (by kernel_rfl) (by kernel_rfl) (by kernel_rfl) (by kernel_rfl) ?_ ?_
    · refine ⟨?_, ?_, ?_, ?_, trivial⟩
      · intro b w' h hE
        have f4 : b.tmps.getD 4 undef = .pointer (some ⟨b4, 0, none⟩) := hE 4 (of_decide_eq_true (by kernel_rfl))
        have c0 := cell_later h.ext q4.out
        exact good_load (wanted_none rfl) rfl f4 (by simp [go_sem, c0]) rfl
      · intro b w' h hE
        have f19 : b.tmps.getD 19 undef = .slice MA N.length mcap := h.dep 0 _ 19 (by kernel_rfl) rfl rfl
        exact good_len (wanted_none rfl) rfl Tryz.underlying33 f19 rfl
      · intro b w' h hE
        have f6 : b.tmps.getD 6 undef = .slice JA J.length jcap := hE 6 (of_decide_eq_true (by kernel_rfl))
        exact good_move (wanted_none rfl) rfl f6
      · intro b w' h hE
        have f21 : b.tmps.getD 21 undef = .slice JA J.length jcap := h.dep 2 _ 21 (by kernel_rfl) rfl rfl
        have g21 : b.tmps[21]?.getD undef = .slice JA J.length jcap := by rw [← Array.getD_eq_getD_getElem?]; exact f21
        refine good_call (wanted_none rfl) rfl (enters Tryz.func36 (by kernel_rfl) rfl) ?_
        rw [show (#[.tmp 21] : Array Operand).map b.eval = #[.slice JA J.length jcap] by simp [Act.eval, g21]]
        exact (hcount.out w' h.ext).mono fun e w1 ⟨he, hx⟩ => ⟨_, he, rfl, hx⟩
    · intro b w2 hX2 hd hz he' hf
      have e19 : b.tmps.getD 19 undef = .slice MA N.length mcap := hf 0 _ 19 (by omega) rfl rfl
      have e20 : b.tmps.getD 20 undef = .int .i64 N.length := hf 1 _ 20 (by omega) rfl rfl
      have e21 : b.tmps.getD 21 undef = .slice JA J.length jcap := hf 2 _ 21 (by omega) rfl rfl
      have e22 : b.tmps.getD 22 undef = .int .i64 c := hf 3 _ 22 (by omega) rfl rfl
      have e := frame_puts hd hz he'
      obtain ⟨X, hXx⟩ : ∃ X : Nat → Value, ∀ d, b.tmps.getD d undef = X d := ⟨_, fun _ => rfl⟩
      rw [hXx] at e19 e20 e21 e22
      rw [show dstsOf _ = [19, 20, 21, 22] from rfl] at e
      simp only [List.foldl_cons, List.foldl_nil, hXx, Act.put, List.setIfInBounds_toArray, List.set_cons_succ, List.set_cons_zero] at e
      rw [e19, e20, e21, e22] at e
      clear hf he' hz hd hXx e19 e20 e21 e22
      subst e
      have hzw := hX2.size
      simp only [List.drop_succ_cons, List.drop_zero]
      by_cases hfull : 4096 < N.length + c
      · have hfI : (4096 : Int) < (N.length : Int) + c := by omega
        have d1 : decide ((4096 : Int) < (N.length : Int) + c) = true := decide_eq_true hfI
        have y2 := o2'.out.ext hX2
        have y3 := o3'.out.ext hX2
        have k2 := y2.cell 0 rfl
        have k3 := y3.cell 0 rfl
        have fr2 := y2.free 0
        have fr3 := y3.free 0
        have l2 := y2.lt
        have l3 := y3.lt
        haveI : In w.heap.size w2 := ⟨l2⟩
        haveI : In b3 w2 := ⟨l3⟩
        have hb23' : w.heap.size ≠ b3 := by omega
        replace y2 := hide y2
        replace y3 := hide y3
        go_wp2_with fail
        dsimp only [onlyN, Exit.then]
        gi_wp2_with fail
        have z2 : Ob ((w2.setCell ⟨w.heap.size, 0, none⟩ (.slice none 0 0)).setCell ⟨b3, 0, none⟩ (.int .i64 7)) w.heap.size 33 [.slice none 0 0] := (y2.out.set 0 _).far _ _ hb23'
        have z3 : Ob ((w2.setCell ⟨w.heap.size, 0, none⟩ (.slice none 0 0)).setCell ⟨b3, 0, none⟩ (.int .i64 7)) b3 26 [.int .i64 7] := (y3.out.far ⟨w.heap.size, 0, none⟩ _ (Ne.symm hb23')).set 0 _
        have hmem : ∀ y ∈ [w.heap.size, b3], ∃ T vs, Ob W y T vs := by
          intro y hy
          simp only [List.mem_cons, List.not_mem_nil, or_false] at hy
          rcases hy with rfl | rfl
          · exact ⟨_, _, o2'.out⟩
          · exact ⟨_, _, o3'.out⟩
        exact ⟨keeps_fr (S := [w.heap.size, b3]) (((Fr.of_ext hX2).setCell ⟨w.heap.size, 0, none⟩ _ (.inl (by simp))).setCell ⟨b3, 0, none⟩ _ (.inl (by simp))) hmem, ⟨rfl, by omega⟩, ⟨z2, z3⟩, ((hXk'.out.trans hX2).setCell (p := ⟨w.heap.size, 0, none⟩) (by simp) _).setCell (p := ⟨b3, 0, none⟩) (by show w.heap.size ≤ b3; omega) _⟩
      · have hfI : ¬ (4096 : Int) < (N.length : Int) + c := by omega
        have d1 : decide ((4096 : Int) < (N.length : Int) + c) = false := decide_eq_false hfI
        have hc4 : c ≤ 4096 := by omega
        replace hX2 := hide hX2
        go_wp2_with fail
        dsimp only [onlyN, Exit.then]
        gi_wp2_with (gi_at_call 37; refine (in_round (hlife.out hc4 _ hX2.out)).mono ?_; rintro ee W3 ⟨u, rfl, hou, hX3⟩; have hou2 : W3.ownsRow 0 30 2 u c (ps (lifeL J)) := (by rw [hc.out]; exact own_base hou (Nat.zero_le _)); obtain ⟨UA, ucap, rfl⟩ := own_form hou2)
        have hz3 := hX3.size
        have hX23 := hX2.out.trans hX3
        have hps : PS w1.heap.size b4 W W3 (.slice MA N.length mcap) (.slice MA N.length mcap) N := ⟨Fr.of_ext hX23, o4'.out.ext hX23, (show OwnPr W w1.heap.size (.slice MA N.length mcap) N from ⟨hNo'.out, fun p hp => hNr.out p hp⟩).ext hX23, fun k hk => .inl hk⟩
        have hr3 := own_ext hr'.out hX23
        replace hps := hide hps
        replace hr3 := hide hr3
        replace hou2 := hide hou2
        clear hou hX3 hlife hcount
        gi_loopg [28] c (fun gh i wr => ∃ (j : Nat) (mv' : Value) (N' : List Ve), i = .int .i64 j ∧ j + gh = c ∧ PS w1.heap.size b4 W wr (.slice MA N.length mcap) mv' N' ∧ (Hid (eds N' = eds N ++ ((lifeL J).take j).map fun s => (q, s)) ∧ N'.length = N.length + j) ∧ (wr.ownsRow 0 30 2 (.slice UA c ucap) c (ps (lifeL J)) ∧ OwnR wr 0 (.slice RA q.length rcap) q))
        case atStart => exact ⟨0, _, N, rfl, by omega, hps.out, ⟨by show _ = _; simp, by omega⟩, hou2.out, hr3.out⟩
        case round =>
          obtain ⟨j, mv', N', rfl, hj, hP, ⟨hN', hNl'⟩, hU, hQ⟩ := hrel
          clear hps hr3 hou2
          have hzP := hP.fr.size
          by_cases hlt : j < c
          · obtain ⟨⟨sa, sb⟩, hs⟩ : ∃ x, (lifeL J)[j]? = some x := ⟨_, List.getElem?_eq_getElem (by rw [← hc.out]; exact hlt)⟩
            have hUj : Jw wr [] (.slice UA c ucap) (lifeL J) := by
              have := Sl.own (S := []) hU (by simp)
              rw [hc.out] at this ⊢
              exact this
            obtain ⟨A', cap', e', hlc', hlm', hat'⟩ := jw_form hUj
            simp only [Value.slice.injEq] at e'
            obtain ⟨rfl, -, rfl⟩ := e'
            unfold maxLen at hlm'
            rw [← hc.out] at hlc'
            obtain ⟨bu, ou, rfl, -, hbu, c0, c1⟩ := hat' j _ hs
            simp only at c0 c1
            have hnx2 := hide (show eds N' ++ [(q, (sa, sb))] = eds N ++ ((lifeL J).take (j + 1)).map fun s => (q, s) by rw [hN'.out, List.take_add_one, hs]; simp)
            have O1 := Ob.new wr 30 [.int .i64 sa, .int .i64 sb]
            have p0 := hide (O1.cell 0 rfl)
            have p1 := hide (O1.cell 1 rfl)
            have hcp := hide (fun w' (hX' : Ext (wr.alloc (.cells #[.int .i64 sa, .int .i64 sb] 30)) w') => rowCopy_c q (.slice RA q.length rcap) w' (Sl.own (S := []) (own_ext hQ (((Ext.refl wr).alloc _).trans hX')) (by simp)) (by omega))
            obtain ⟨C, ccap, rfl⟩ := own_form hP.own.1
            have r4 := hide ((hP.ob4.cell 0 rfl))
            have hB1 : w1.heap.size ≤ wr.heap.size := by omega
            replace hP := hide hP
            replace hU := hide hU
            replace hQ := hide hQ
            have hNl3 : N'.length ≤ N.length + j := by omega
            replace hNl' := hide hNl'
            clear hat' hs O1 hUj hN'
            gi_wp2_with fail
            refine wpIn_region_list_tail 6 [(.is (.slice C N'.length ccap)), (.is (.slice RA q.length rcap)), rowF (List.range wr.heap.size) q, (.is (jm (sa, sb))), pcF (List.range wr.heap.size) q (sa, sb), oneP (List.range wr.heap.size) q (sa, sb)] (by kernel_rfl) (by kernel_rfl) (by kernel_rfl) (by kernel_rfl) (by kernel_rfl) (by kernel_rfl) (by kernel_rfl) (by kernel_rfl) ?_ ?_
            · refine ⟨?_, ?_, ?_, ?_, ?_, ?_, trivial⟩
              · intro b w' h hE
                have f4 : b.tmps.getD 4 undef = .pointer (some ⟨b4, 0, none⟩) := hE 4 (of_decide_eq_true (by kernel_rfl))
                have c0 := cell_later (((Ext.refl wr).alloc _).trans h.ext) r4.out
                exact good_load (wanted_none rfl) rfl f4 (by simp [go_sem, c0]) rfl
              · intro b w' h hE
                have f5 : b.tmps.getD 5 undef = .slice RA q.length rcap := hE 5 (of_decide_eq_true (by kernel_rfl))
                exact good_move (wanted_none rfl) rfl f5
              · intro b w' h hE
                have f33 : b.tmps.getD 33 undef = .slice RA q.length rcap := h.dep 1 _ 33 (by kernel_rfl) rfl rfl
                have g33 : b.tmps[33]?.getD undef = .slice RA q.length rcap := by rw [← Array.getD_eq_getD_getElem?]; exact f33
                refine good_call (wanted_none rfl) rfl (enters Tryz.func43 (by kernel_rfl) rfl) ?_
                rw [show (#[.tmp 33] : Array Operand).map b.eval = #[.slice RA q.length rcap] by simp [Act.eval, g33]]
                exact (hcp.out w' h.ext).mono fun e w1 ⟨v, he, ho, hx⟩ => ⟨v, he, Sl.own ho (fun k hk => by have := List.mem_range.1 hk; have := h.ext.size; simp only [World.size_alloc] at this; omega), hx⟩
              · intro b w' h hE
                have f8 : b.tmps.getD 8 undef = .pointer (some ⟨wr.heap.size, 0, none⟩) := hE 8 (of_decide_eq_true (by kernel_rfl))
                have c0 := cell_later h.ext p0.out
                have c1 := cell_later h.ext p1.out
                exact good_load (wanted_none rfl) rfl f8 (by simp [go_sem, c0, c1]) rfl
              · intro b w' h hE
                have f34 : Rw w' (List.range wr.heap.size) (b.tmps.getD 34 undef) q := h.dep 2 _ 34 (by kernel_rfl) rfl rfl
                have f35 : b.tmps.getD 35 undef = jm (sa, sb) := h.dep 3 _ 35 (by kernel_rfl) rfl rfl
                have g35 : b.tmps[35]?.getD undef = jm (sa, sb) := by rw [← Array.getD_eq_getD_getElem?]; exact f35
                obtain ⟨A, cp, e34⟩ := rw_val f34
                have g34 : b.tmps[34]?.getD undef = .slice A q.length cp := by rw [← Array.getD_eq_getD_getElem?]; exact e34
                rw [e34] at f34
                exact good_run (wanted_none rfl) (v := em (.slice A q.length cp) (sa, sb)) (by simp [execOp, Act.eval, go_sem, g34, g35, jm, Sem.run_bind, Sem.run_pure, Result.andThen_ok]) ⟨A, cp, rfl, f34⟩
              · intro b w' h hE
                have f36 : ∃ A cp, (b.tmps.getD 36 undef) = em (.slice A q.length cp) (sa, sb) ∧ Rw w' (List.range wr.heap.size) (.slice A q.length cp) q := h.dep 4 _ 36 (by kernel_rfl) rfl rfl
                obtain ⟨A, cp, e36, hr36⟩ := f36
                have g36 : b.tmps[36]?.getD undef = em (.slice A q.length cp) (sa, sb) := by rw [← Array.getD_eq_getD_getElem?]; exact e36
                have := buildP1 A q.length cp (sa, sb) w'
                refine good_grow (w' := w'.alloc (.cells #[.slice A q.length cp, .int .i64 sa, .int .i64 sb] 48)) (v := .slice (some ⟨w'.heap.size, 0, none⟩) 1 1) (wanted_none rfl) ?_ ⟨_, oneP_new (.slice A q.length cp) q (sa, sb) w', Sl.ext hr36 ((Ext.refl _).alloc _)⟩ ((Ext.refl _).alloc _)
                simp [execOp, Act.eval, g36, this, Sem.run_bind, Sem.run_pure, Result.andThen_ok]
            · intro b w5 hX5 hd hz he' hf
              have e32 : b.tmps.getD 32 undef = .slice C N'.length ccap := hf 0 _ 32 (by omega) rfl rfl
              have e33 : b.tmps.getD 33 undef = .slice RA q.length rcap := hf 1 _ 33 (by omega) rfl rfl
              have f34 : Rw w5 (List.range wr.heap.size) (b.tmps.getD 34 undef) q := hf 2 _ 34 (by omega) rfl rfl
              have e35 : b.tmps.getD 35 undef = jm (sa, sb) := hf 3 _ 35 (by omega) rfl rfl
              have f36 : ∃ A cp, (b.tmps.getD 36 undef) = em (.slice A q.length cp) (sa, sb) ∧ Rw w5 (List.range wr.heap.size) (.slice A q.length cp) q := hf 4 _ 36 (by omega) rfl rfl
              have f37 : ∃ u, Sl w5 [] 3 (b.tmps.getD 37 undef) 1 (ec1 (u, q, (sa, sb))) ∧ Rw w5 (List.range wr.heap.size) u q := hf 5 _ 37 (by omega) rfl rfl
              have e := frame_puts hd hz he'
              obtain ⟨X, hXx⟩ : ∃ X : Nat → Value, ∀ d, b.tmps.getD d undef = X d := ⟨_, fun _ => rfl⟩
              rw [hXx] at e32 e33 e35 f34 f36 f37
              obtain ⟨A34, c34, q34⟩ := rw_val f34
              obtain ⟨A36, c36, q36, -⟩ := f36
              obtain ⟨u37, f37, r37⟩ := f37
              obtain ⟨A37, c37, q37⟩ := sl_form f37
              rw [show dstsOf _ = [32, 33, 34, 35, 36, 37] from rfl] at e
              simp only [List.foldl_cons, List.foldl_nil, hXx, Act.put, List.setIfInBounds_toArray, List.set_cons_succ, List.set_cons_zero] at e
              rw [e32, e33, e35, q34, q36, q37] at e
              rw [q37] at f37
              replace f37 := hide f37
              clear hf he' hz hd hXx e32 e33 e35 q34 q36 q37 f34
              subst e
              have hzw := hX5.size
              simp only [World.size_alloc] at hzw
              simp only [List.drop_succ_cons, List.drop_zero]
              replace r37 := hide r37
              have hone := row_one r37.out
              have hX05 : Ext wr w5 := ((Ext.refl wr).alloc _).trans hX5
              have hP5 := hide (hP.out.ob4.ext hX05)
              have hO5 := hide (own_ext hP.out.own.1 hX05)
              have hno := Ob.not_own hP5.out hO5.out (by decide)
              replace hX05 := hide hX05
              go_wp2_with (at_builtin; (refine wpl_app tPc rfl (.tmp 32) (.tmp 37) rfl rfl hO5.out rfl (src_sl Tryz.underlying33 f37.out (ec1_one hone) (by omega)) (by unfold maxLen; omega) (by omega) (by omega) ?_; intro v8 w8 ho8 hg8 hob8; have o8 := hP5.out.grown hg8 (Ne.symm hno); have k8 := o8.cell 0 rfl; have fr8 := o8.free 0; have l8 := o8.lt; haveI : In b4 w8 := ⟨l8⟩; have hU8 := hide (hP.out.keep (v8 := v8) hX05.out hg8 hU.out (by decide) (by decide)); have hQ8 := hide (hP.out.keep (v8 := v8) hX05.out hg8 hQ.out (by decide) (by decide)); have hP8 := hide (hP.out.app hX05.out (own_appP (M := [(u37, q, (sa, sb))]) (by simpa [ec, ec1] using ho8)) hg8 hob8 r37.out (fun k hk => List.mem_range.2 hk) hB1 rfl); obtain ⟨A8, c8, q8⟩ := own_form ho8; subst q8))
              dsimp only [onlyN, Exit.then, Exit.inBlock]
              gi_wp2_with fail
              gi_roundg (c - (j + 1))
              case measure => omega
              case rel => exact ⟨j + 1, _, _, by go_num, by omega, hP8.out, ⟨by show _ = _; rw [eds, List.map_append]; exact hnx2.out, by have := hNl'.out; rw [List.length_append, List.length_singleton]; omega⟩, hU8.out, hQ8.out⟩
          · have hjc : j = c := by omega
            have hge : ¬ (j : Int) < c := by omega
            have hfin := hN'.out
            rw [hjc, hc.out, List.take_of_length_le (Nat.le_refl _)] at hfin
            replace hfin := hide hfin
            replace hP := hide hP
            replace hU := hide hU
            replace hQ := hide hQ
            clear hN'
            have hNl4 : N'.length ≤ 4096 := by omega
            replace hNl' := hide hNl'
            gi_wp2_with fail
            have hF := hP.out.fr
            have hobN := ob_ge hNo'.out
            have hgeS : ∀ y ∈ ob (Value.slice MA N.length mcap) ++ [b4], w1.heap.size ≤ y ∨ y ∈ [b4] := fun y hy => (List.mem_append.1 hy).imp (fun h => (hobN y h).1) id
            have hb4lt : b4 < w1.heap.size := p4.lt
            have hge2 : ∀ y ∈ ob (Value.slice MA N.length mcap) ++ [b4], b3 < y := fun y hy => by
              rcases List.mem_append.1 hy with hy | hy
              · have := (hobN y hy).1; omega
              · obtain rfl := List.mem_singleton.1 hy; omega
            refine ⟨keeps_fr hF (fun y hy => ?_), belX_fr hF h1W hgeS, ⟨⟨o2'.out.fr hF (fun h => by have := hge2 _ h; omega), o3'.out.fr hF (fun h => by have := hge2 _ h; omega)⟩, ⟨mv', N', ⟨hP.out.ob4, hP.out.own.1, hP.out.own.2⟩, by rw [hfin.out, hNe.out, hnx.out]; rfl, hNl4⟩, ext_fr hXk'.out hF (fun y hy => by have := hge2 _ hy; omega), Nat.le_trans h1W hF.size⟩, ?_⟩
            · rcases List.mem_append.1 hy with hy | hy
              · exact ob_obj hNo'.out y hy
              · obtain rfl := List.mem_singleton.1 hy; exact ⟨_, _, o4'.out⟩
            · rintro y T us ⟨mv0, om, hy1, hy2, hy3⟩ oy
              obtain rfl : mv0 = .slice MA N.length mcap := by
                have e1 := om
                unfold Ob at e1
                have e2 := o4'.out
                unfold Ob at e2
                rw [e2] at e1
                simpa using e1.symm
              have hyS : y ∉ ob (Value.slice MA N.length mcap) ++ [b4] := by
                intro h
                rcases List.mem_append.1 h with h | h
                · exact hy2 (by simpa [ob] using h)
                · exact hy1 (by simpa using h)
              refine ⟨⟨mv', hP.out.ob4, hy1, fun h => ?_, by have := hF.size; omega⟩, oy.fr hF hyS⟩
              rcases hP.out.blk y h with h | h
              · exact hy2 h
              · omega
  case done =>
    rintro D W hD ⟨⟨o2, o3⟩, ⟨mv, N, ⟨o4, hNo, hNr⟩, hNe, hNl⟩, hXk, h1W⟩ hK
    rw [List.take_of_length_le (Nat.le_refl _)] at hNe
    have hNL : N.length = (piecesL (grp (eds M))).length := by rw [← hNe]; simp [eds]
    have hE0 : E = 0 := by rw [hE.out, if_neg (by omega)]
    subst hE0
    have hR0 := hide (show eds N = R by rw [hR.out, if_pos rfl, hNe, hM.out])
    have q2 := o2.cell 0 rfl
    have q3 := o3.cell 0 rfl
    have q4 := o4.cell 0 rfl
    have f2 := o2.free 0
    have f3 := o3.free 0
    have l2 := o2.lt
    have l3 := o3.lt
    have l4 := o4.lt
    haveI : In w.heap.size W := ⟨l2⟩
    haveI : In b3 W := ⟨l3⟩
    haveI : In b4 W := ⟨l4⟩
    have hb23' : w.heap.size ≠ b3 := by omega
    have hM0 : OwnPr W w1.heap.size mv N := ⟨hNo, fun p hp => hNr p hp⟩
    obtain ⟨MA, mcap, rfl⟩ := own_form hNo
    replace hM0 := hide hM0
    replace hNe := hide hNe
    replace hNL := hide hNL
    have o2' := hide o2
    have o3' := hide o3
    have hXk' := hide hXk
    have hK' := hide hK
    clear hNo hNr
    go_wp2_with fail
    have y2 : Ob ((W.setCell ⟨w.heap.size, 0, none⟩ (.slice MA N.length mcap)).setCell ⟨b3, 0, none⟩ (.int .i64 0)) w.heap.size 33 [.slice MA N.length mcap] := (o2'.out.set 0 _).far _ _ hb23'
    have y3 : Ob ((W.setCell ⟨w.heap.size, 0, none⟩ (.slice MA N.length mcap)).setCell ⟨b3, 0, none⟩ (.int .i64 0)) b3 26 [.int .i64 0] := (o3'.out.far ⟨w.heap.size, 0, none⟩ _ (Ne.symm hb23')).set 0 _
    have hF2 : Fr [w.heap.size, b3] W ((W.setCell ⟨w.heap.size, 0, none⟩ (.slice MA N.length mcap)).setCell ⟨b3, 0, none⟩ (.int .i64 0)) := ((Fr.refl [w.heap.size, b3] W).setCell ⟨w.heap.size, 0, none⟩ _ (.inl (by simp))).setCell ⟨b3, 0, none⟩ _ (.inl (by simp))
    have hb4lt : b4 < w1.heap.size := p4.lt
    have hin12 : ∀ x ∈ [w.heap.size, b3], x < w1.heap.size := by intro x hx; simp only [List.mem_cons, List.not_mem_nil, or_false] at hx; omega
    have hK2 := (KeepsOthers.setCell (W.setCell ⟨w.heap.size, 0, none⟩ (.slice MA N.length mcap)) ⟨b3, 0, none⟩ (.int .i64 0)).same D _ ((KeepsOthers.setCell W ⟨w.heap.size, 0, none⟩ (.slice MA N.length mcap)).same D _ hK'.out rfl) rfl
    have z2 := (ob_put (o' := .deferred none) hK2 rfl y2).cell 0 rfl
    have z3 := (ob_put (o' := .deferred none) hK2 rfl y3).cell 0 rfl
    have hM2 : OwnPr (((W.setCell ⟨w.heap.size, 0, none⟩ (.slice MA N.length mcap)).setCell ⟨b3, 0, none⟩ (.int .i64 0)).putObj D (.deferred none)) w1.heap.size (.slice MA N.length mcap) N :=
      ⟨(Stab.own (B := 0) _ _ _ _ _ _).put _ D _ _ (own_fr hM0.out.1 hF2 hin12) (Nat.zero_le _) hK2 rfl, fun p hp => (Stab.sl (B := 0) _ _ _ _ _).put _ D _ _ (Sl.fr (hM0.out.2 p hp) hF2 (fun x hx => List.mem_append_right _ (List.mem_range.2 (hin12 x hx)))) (Nat.zero_le _) hK2 rfl⟩
    refine ret_mark hK2 (v := .tuple #[.slice MA N.length mcap, .int .i64 0]) ?_ ⟨_, rfl, N, hR0.out, hM2.lower hzw, put_ext ((hXk'.out.setCell (p := ⟨w.heap.size, 0, none⟩) (by simp) _).setCell (p := ⟨b3, 0, none⟩) (by show w.heap.size ≤ b3; omega) _) (by omega) _⟩
    simp [results, Tryz.f14, go_sem, z2, z3]
  case stop =>
    rintro D c k W hD hk ⟨⟨rfl, h4⟩, ⟨o2, o3⟩, hXk⟩ hK
    have hE7 : E = 7 := by rw [hE.out, if_pos h4]
    subst hE7
    have hR0 := hide (show [] = R by rw [hR.out, if_neg (by decide)])
    have hK' := hide hK
    go_wp2
    have z2 := (ob_put (o' := .deferred none) hK'.out rfl o2).cell 0 rfl
    have z3 := (ob_put (o' := .deferred none) hK'.out rfl o3).cell 0 rfl
    refine ret_mark hK'.out (v := .tuple #[.slice none 0 0, .int .i64 7]) ?_ ⟨_, [], rfl, hR0.out, OwnPr.nil _ _, put_ext hXk (by omega) _⟩
    simp [results, Tryz.f14, go_sem, z2, z3]
end Go.Proofs.YtgniebjigphcgaaGreat
set_option linter.unusedVariables false
set_option linter.unusedSimpArgs false
namespace Go.Proofs.YtgniebjigphcgaaGreat
open Go.RowKit
attribute [local go_sem] GW.cell GW.frozen In.eq_true In.le_true In.ne In.ne' In.ne_add In.ne_add' In.lt_add Upto.le_true Upto.le_add Upto.lt_add
/-- What is wrong with pieces that are packed; they, packed. -/
def ppE (l : List Ed) : Int := if pkE l = 0 then pcE (pkR l) else pkE l
def ppR (l : List Ed) : List Ed := if pkE l = 0 then pcR (pkR l) else []
set_option maxHeartbeats 4000000 in
set_option maxRecDepth 100000 in
theorem packPack_c (L : List Ve) (hL : L.length ≤ 4096) (v : Value) (w : World) (h : Ew w [] v L) : Calls Tryz.prog 20 #[v] w fun e w' => ∃ v' M, e = .returned (.tuple #[v', .int .i64 (ppE (eds L))]) ∧ eds M = ppR (eds L) ∧ OwnPr w' w.heap.size v' M ∧ Ext w w' := by
  have hc := hide (packEdges_c L hL v w h)
  have hpp : ppE (eds L) = if pkE (eds L) = 0 then pcE (pkR (eds L)) else pkE (eds L) := rfl
  have hpr : ppR (eds L) = if pkE (eds L) = 0 then pcR (pkR (eds L)) else [] := rfl
  generalize ppE (eds L) = E2 at *
  generalize ppR (eds L) = R2 at *
  obtain ⟨A, cap, rfl, -, -, -⟩ := ew_form h
  clear h
  by_cases hz : pkE (eds L) = 0
  · rw [if_pos hz] at hpp hpr
    rw [hz] at hc
    obtain ⟨R, hR⟩ : ∃ R, R = pkR (eds L) := ⟨_, rfl⟩
    rw [← hR] at hc hpp hpr
    replace hpp := hide hpp
    replace hpr := hide hpr
    replace hz := hide hz
    replace hR := hide hR
    go_enter Tryz.func20, Tryz.ntmps20
    go_wp2_with (first | (go_at_call 17; refine hc.out.mono ?_; rintro ee w1 ⟨v1, M1, rfl, hM1, ho1, hx1⟩; have hpc := hide (pieces_c M1 v1 w1 ho1.ew); rw [hM1] at hpc; obtain ⟨A1, c1, rfl⟩ := own_form ho1.1; replace hM1 := hide hM1; replace ho1 := hide ho1) | (go_at_call 14; refine hpc.out.mono ?_; rintro ee w2 ⟨v2, M2, rfl, hM2, ho2, hx2⟩; obtain ⟨A2, c2, rfl⟩ := own_form ho2.1; replace hM2 := hide hM2; replace ho2 := hide ho2))
    go_returns
    exact ⟨_, M2, by rw [hpp.out]; rfl, by rw [hpr.out, hM2.out], ho2.out.lower hx1.size, hx1.trans hx2⟩
  · rw [if_neg hz] at hpp hpr
    have hne : (pkE (eds L) != 0) = true := by simp [hz]
    generalize pkE (eds L) = E at *
    subst hpp
    replace hpr := hide hpr
    replace hz := hide hz
    go_enter Tryz.func20, Tryz.ntmps20
    go_wp2_with (go_at_call 17; refine hc.out.mono ?_; rintro ee w1 ⟨v1, M1, rfl, hM1, ho1, hx1⟩; obtain ⟨A1, c1, rfl⟩ := own_form ho1.1; replace hM1 := hide hM1; replace ho1 := hide ho1)
    go_returns
    exact ⟨_, [], rfl, by rw [hpr.out]; rfl, OwnPr.nil _ _, hx1⟩
end Go.Proofs.YtgniebjigphcgaaGreat
set_option linter.unusedVariables false
set_option linter.unusedSimpArgs false
namespace Go.Proofs.YtgniebjigphcgaaGreat
open Go.RowKit
attribute [local go_sem] GW.cell GW.frozen In.eq_true In.le_true In.ne In.ne' In.ne_add In.ne_add' In.lt_add Upto.le_true Upto.le_add Upto.lt_add
def pI : List Vl := [(1, 1, ⟨#[]⟩)]
theorem rwP (w : World) : Rw (w.alloc (.cells #[.int .i64 1, .int .i64 1, .string ⟨#[]⟩] 85)) [] (.slice (some ⟨w.heap.size, 0, none⟩) 1 1) pI := Sl.own (World.ownsRow_lit (base := w.heap.size) (e := 85) (size := 3) w #[.int .i64 1, .int .i64 1, .string ⟨#[]⟩] 1 (Nat.le_refl _) (by decide) rfl) (by simp)
theorem litP1 (u : Value) (r : List Vl) (j : Jp) (w : World) (h : Rw w [] u r) : Ew (w.alloc (.cells #[u, .int .i64 j.1, .int .i64 j.2] 48)) [] (.slice (some ⟨w.heap.size, 0, none⟩) 1 1) [(u, r, j)] := by
  refine ⟨Sl.own (World.ownsRow_lit (base := w.heap.size) (e := 48) (size := 3) w #[u, .int .i64 j.1, .int .i64 j.2] 1 (Nat.le_refl _) (by decide) rfl) (by simp), fun p hp => ?_⟩
  obtain rfl := List.mem_singleton.1 hp
  exact Sl.ext h ((Ext.refl w).alloc _)
theorem litP2 (u u' : Value) (r : List Vl) (j k : Jp) (w : World) (h : Rw w [] u r) (h' : Rw w [] u' r) : Ew (w.alloc (.cells #[u, .int .i64 j.1, .int .i64 j.2, u', .int .i64 k.1, .int .i64 k.2] 48)) [] (.slice (some ⟨w.heap.size, 0, none⟩) 2 2) [(u, r, j), (u', r, k)] := by
  refine ⟨Sl.own (World.ownsRow_lit (base := w.heap.size) (e := 48) (size := 3) w #[u, .int .i64 j.1, .int .i64 j.2, u', .int .i64 k.1, .int .i64 k.2] 2 (Nat.le_refl _) (by decide) rfl) (by simp), fun p hp => ?_⟩
  simp only [List.mem_cons, List.not_mem_nil, or_false] at hp
  rcases hp with rfl | rfl
  · exact Sl.ext h ((Ext.refl w).alloc _)
  · exact Sl.ext h' ((Ext.refl w).alloc _)
theorem pkI1 : ppE [(pI, (5, 9)), (pI, (2, 5))] = 0 := by decide +kernel
theorem pkI2 : ppE [(pI, (1, 10)), (pI, (3, 5))] = 0 := by decide +kernel
theorem pkV1 : ppR [(pI, (5, 9)), (pI, (2, 5))] = [(pI, (2, 9))] := by decide +kernel
theorem pkV2 : ppR [(pI, (1, 10)), (pI, (3, 5))] = [(pI, (1, 5)), (pI, (3, 10))] := by decide +kernel
theorem myI1 : mayPc (pI, (-1, 0)) = true := by decide +kernel
theorem myI2 : mayPc (pI, (3, 3)) = false := by decide +kernel
set_option maxHeartbeats 1000000 in
theorem one_c (f t : Int) (w : World) : Calls Tryz.prog 33 #[.int .i64 f, .int .i64 t] w fun e w' => ∃ A, e = .returned (em (.slice A 1 1) (f, t)) ∧ Rw w' [] (.slice A 1 1) pI ∧ Ext w w' := by
  have hrw := rwP (w.alloc (.cells #[.slice (some ⟨w.heap.size + 1, 0, none⟩) 1 1, .int .i64 f, .int .i64 t] 48))
  rw [World.size_alloc] at hrw
  replace hrw := hide hrw
  go_enter Tryz.func33, Tryz.ntmps33
  go_wp2_with fail
  go_returns
  exact ⟨_, rfl, hrw.out, ((Ext.refl w).alloc _).alloc _⟩
set_option maxHeartbeats 8000000 in
set_option maxRecDepth 100000 in
theorem pakLive_c (w : World) : Calls Tryz.prog 11 #[] w fun e w' => e = .returned (.bool true) ∧ Ext w w' := by
  go_enter Tryz.func11, Tryz.ntmps11
  go_wp2_with (first | (go_at_call 33; first | (with_reducible refine (one_c 5 9 _).mono ?_; rintro ee w1 ⟨A1, rfl, r1, x1⟩; replace r1 := hide r1; have X1 := hide (x1); clear x1) | (with_reducible refine (one_c 2 5 _).mono ?_; rintro ee w2 ⟨A2, rfl, r2, x2⟩; replace r2 := hide r2; have X2 := hide (X1.out.trans x2); have x20 := hide x2; clear x2) | (with_reducible refine (one_c 1 10 _).mono ?_; rintro ee w4 ⟨A4, rfl, r4, x4⟩; replace r4 := hide r4; have X4 := hide (X3.out.trans x4); have x40 := hide (x4); clear x4) | (with_reducible refine (one_c 3 5 _).mono ?_; rintro ee w5 ⟨A5, rfl, r5, x5⟩; replace r5 := hide r5; have X5 := hide (X4.out.trans x5); have x50 := hide x5; have x350 := hide (x40.out.trans x5); clear x5) | (with_reducible refine (one_c 2 9 _).mono ?_; rintro ee w7 ⟨A7, rfl, r7, x7⟩; replace r7 := hide r7; have X7 := hide (X6.out.trans x7); have x70 := hide x7; clear x7) | (with_reducible refine (one_c 1 5 _).mono ?_; rintro ee w9 ⟨A9, rfl, r9, x9⟩; replace r9 := hide r9; have X9 := hide (X8.out.trans x9); have x90 := hide x9; clear x9) | (with_reducible refine (one_c 3 10 _).mono ?_; rintro ee w10 ⟨A10, rfl, r10, x10⟩; replace r10 := hide r10; have X10 := hide (X9.out.trans x10); have x100 := hide x10; clear x10) | (with_reducible refine (one_c (-1) 0 _).mono ?_; rintro ee w12 ⟨A12, rfl, r12, x12⟩; replace r12 := hide r12; have X12 := hide (X11.out.trans x12); clear x12) | (with_reducible refine (one_c 3 3 _).mono ?_; rintro ee w14 ⟨A14, rfl, r14, x14⟩; replace r14 := hide r14; have X14 := hide (X13.out.trans x14); clear x14)) | (go_at_call 20; first | (refine (packPack_c [(.slice A4 1 1, pI, (1, 10)), (.slice A5 1 1, pI, (3, 5))] (by simp) _ _ (litP2 _ _ pI (1, 10) (3, 5) w5 (Sl.ext r4.out x50.out) r5.out)).mono ?_; rintro ee w6 ⟨v6, M6, rfl, hM6, o6, x6⟩; rw [show eds [((.slice A4 1 1, pI, (1, 10)) : Ve), (.slice A5 1 1, pI, (3, 5))] = [(pI, (1, 10)), (pI, (3, 5))] from rfl] at *; rw [pkI2]; rw [pkV2] at hM6; replace o6 := hide o6; have X6 := hide (X5.out.trans (((Ext.refl _).alloc _).trans x6)); have X36 := hide (x350.out.trans (((Ext.refl _).alloc _).trans x6)); clear x6; obtain ⟨B6, c6, rfl⟩ := own_form o6.out.1; replace hM6 := hide hM6) | (refine (packPack_c [(.slice A1 1 1, pI, (5, 9)), (.slice A2 1 1, pI, (2, 5))] (by simp) _ _ (litP2 _ _ pI (5, 9) (2, 5) w2 (Sl.ext r1.out x20.out) r2.out)).mono ?_; rintro ee w3 ⟨v3, M3, rfl, hM3, o3, x3⟩; rw [show eds [((.slice A1 1 1, pI, (5, 9)) : Ve), (.slice A2 1 1, pI, (2, 5))] = [(pI, (5, 9)), (pI, (2, 5))] from rfl] at *; rw [pkI1]; rw [pkV1] at hM3; replace o3 := hide o3; have X3 := hide (X2.out.trans (((Ext.refl _).alloc _).trans x3)); clear x3; obtain ⟨B3, c3, rfl⟩ := own_form o3.out.1; replace hM3 := hide hM3)) | (go_at_call 24; have hs1 := pieceSame_c (o3.out.ew.ext ((X36.out.trans x70.out).trans ((Ext.refl _).alloc _))) (litP1 (.slice A7 1 1) pI (2, 9) w7 r7.out); rw [decide_eq_true (show eds M3 = eds [((.slice A7 1 1, pI, (2, 9)) : Ve)] from hM3.out)] at hs1; replace hs1 := hide hs1; (with_reducible refine seq_gw hs1.out ?_); intro g8; have X8 := hide (X7.out.trans (((Ext.refl _).alloc _).trans g8.grown)); have X68 := hide (x70.out.trans (((Ext.refl _).alloc (.cells #[.slice A7 1 1, .int .i64 2, .int .i64 9] 48)).trans g8.grown))) | (go_at_call 16; have hs2 := refPieceSame_c (o6.out.ew.ext (((X68.out.trans x90.out).trans x100.out).trans ((Ext.refl _).alloc _))) (litP2 (.slice A9 1 1) (.slice A10 1 1) pI (1, 5) (3, 10) w10 (Sl.ext r9.out x100.out) r10.out); rw [decide_eq_true (show eds M6 = eds [((.slice A9 1 1, pI, (1, 5)) : Ve), (.slice A10 1 1, pI, (3, 10))] from hM6.out)] at hs2; replace hs2 := hide hs2; (with_reducible refine seq_gw hs2.out ?_); intro g11; have X11 := hide (X10.out.trans (((Ext.refl _).alloc _).trans g11.grown))) | (go_at_call 22; first | (have hm2 := pcMay_c pI (3, 3) (.slice A14 1 1) w14 r14.out; rw [myI2] at hm2; replace hm2 := hide hm2; (with_reducible refine seq_gw hm2.out ?_); intro g15; have X15 := hide (X14.out.trans g15.grown)) | (have hm1 := pcMay_c pI (-1, 0) (.slice A12 1 1) w12 r12.out; rw [myI1] at hm1; replace hm1 := hide hm1; (with_reducible refine seq_gw hm1.out ?_); intro g13; have X13 := hide (X12.out.trans g13.grown))))
  go_returns
  exact ⟨by first | rfl | simp, X15.out⟩
end Go.Proofs.YtgniebjigphcgaaGreat
