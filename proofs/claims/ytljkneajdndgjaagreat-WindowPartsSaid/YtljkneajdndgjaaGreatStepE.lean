/-
  A helper of ours: no claim of its own. Layer 9 (step): the other sign, and parts, by the code.
-/
import Derived.Test.YtljkneajdndgjaaGreatStepA
set_option linter.unusedVariables false
set_option linter.unusedSimpArgs false
namespace Go.Proofs.YtljkneajdndgjaaGreat
open Go.RowKit
attribute [local go_sem] GW.cell GW.frozen In.eq_true In.le_true In.ne In.ne' In.ne_add In.ne_add' In.lt_add Upto.le_true Upto.le_add Upto.lt_add
/-- The first place from k on that holds such a one, or -1. -/
def jidxP (p : Jp → Bool) : Nat → List Jp → Int
  | _, [] => -1
  | k, x :: r => if p x then k else jidxP p (k + 1) r
set_option maxHeartbeats 2000000 in
theorem indexToo_c (l : List Jp) (v : Value) (w : World) (h : Jw w [] v l) : Calls Tryz.prog 169 #[v, .func (.func 127) #[] #[]] w fun e w' => e = .returned (.int .i64 (jidxP tooJ 0 l)) ∧ Ext w w' := by
  obtain ⟨A, cap, rfl, hl, hm, hat⟩ := jw_form h
  unfold maxLen at hm
  replace hat := hide hat
  clear h
  obtain ⟨R, hR⟩ : ∃ R, R = jidxP tooJ 0 l := ⟨_, rfl⟩
  rw [← hR]
  replace hR := hide hR
  go_enter Tryz.func169, Tryz.ntmps169
  go_wp2_with fail
  go_loopg [8] l.length (fun gh i wr => ∃ (k : Nat), i = .int .i64 k ∧ k + gh = l.length ∧ Hid (R = jidxP tooJ k (l.drop k)) ∧ Ext w wr)
  case atStart => exact ⟨0, rfl, by omega, by simpa using hR, Ext.refl w⟩
  case round =>
    obtain ⟨k, rfl, hk, hRk, hX⟩ := hrel
    clear hR
    by_cases hlt : k < l.length
    · obtain ⟨x, hx⟩ : ∃ x, l[k]? = some x := ⟨_, List.getElem?_eq_getElem hlt⟩
      obtain ⟨b, o, rfl, -, hb, c0, c1⟩ := hat.out k x hx
      have k0 := jcell_later hX c0
      have k1 := jcell_later hX c1
      have hbr : b < wr.heap.size := block_lt_of_cell k0
      have hin := hide (fun w => isTooGreat_c x w)
      have hR2 := hRk.out
      rw [jdrop_cons hx] at hR2
      simp only [jidxP] at hR2
      replace hR2 := hide hR2
      obtain ⟨xp, xn⟩ := x
      clear c0 c1 hat hx
      cases hmx : tooJ (xp, xn)
      · rw [hmx] at hin hR2
        replace hmx := hide hmx
        go_wp2_with (go_at_call 127; (with_reducible refine seq_gw (hin.out _) ?_); intro g)
        go_roundg (l.length - (k + 1))
        case measure => omega
        case rel => exact ⟨k + 1, by go_num, by omega, hR2, hX.trans g.grown⟩
      · rw [hmx] at hin hR2
        replace hmx := hide hmx
        go_wp2_with (go_at_call 127; (with_reducible refine seq_gw (hin.out _) ?_); intro g)
        go_returns
        exact ⟨by rw [hR2.out]; rfl, hX.trans g.grown⟩
    · have hk' : k = l.length := by omega
      have hge : (l.length : Int) ≤ k := by omega
      have hR2 := hRk.out
      rw [hk', List.drop_length] at hR2
      replace hR2 := hide hR2
      replace hk' := hide hk'
      go_wp2_with fail
      go_returns
      exact ⟨by rw [hR2.out]; rfl, hX⟩
theorem wrapN {q : Nat} (h : q < 9223372036854775808) : IntKind.i64.wrap (q : Int) = q := by
  simp [IntKind.wrap, IntKind.bits, IntKind.signed]; omega
theorem mayJ_bad {l : List Jp} {k : Nat} {x : Jp} (hx : l[k]? = some x) (h : okJ x = false) : mayJ l = false := by
  cases hm : mayJ l
  · rfl
  · rw [(mayJ_iff.1 hm).2.1 x (List.mem_of_getElem? hx)] at h; cases h
theorem mayJ_desc {l : List Jp} {q : Nat} {x y : Jp} (hy : l[q]? = some y) (hx : l[q + 1]? = some x) (h : x.1 ≤ y.1) : mayJ l = false := by
  cases hm : mayJ l
  · rfl
  · obtain ⟨h1, e1⟩ := List.getElem?_eq_some_iff.1 hy
    obtain ⟨h2, e2⟩ := List.getElem?_eq_some_iff.1 hx
    have := List.pairwise_iff_getElem.1 (mayJ_iff.1 hm).2.2 q (q + 1) h1 h2 (by omega)
    rw [e1, e2] at this; omega
theorem mayJ_more {l : List Jp} {k : Nat} {x : Jp} (hn : l.length ≤ 1024) (ih : mayJ (l.take k) = true) (hx : l[k]? = some x) (hok : okJ x = true) (hl : ∀ q y, k = q + 1 → l[q]? = some y → y.1 < x.1) : mayJ (l.take (k + 1)) = true := by
  obtain ⟨_, h2, h3⟩ := mayJ_iff.1 ih
  refine mayJ_iff.2 ⟨by rw [List.length_take]; omega, fun j hj => ?_, ?_⟩
  · rw [take_snoc hx] at hj
    rcases List.mem_append.1 hj with hj | hj
    · exact h2 j hj
    · simp only [List.mem_singleton] at hj; rw [hj]; exact hok
  · rw [take_snoc hx]
    refine List.pairwise_append.2 ⟨h3, by simp, fun a ha b hb => ?_⟩
    simp only [List.mem_singleton] at hb; subst hb
    rcases k with _ | q
    · simp at ha
    · have hq : q < l.length := by have := (List.getElem?_eq_some_iff.1 hx).1; omega
      have hy := hl q l[q] rfl (List.getElem?_eq_getElem hq)
      rw [take_snoc (List.getElem?_eq_getElem hq)] at ha h3
      rcases List.mem_append.1 ha with ha | ha
      · have := (List.pairwise_append.1 h3).2.2 a ha l[q] (by simp); omega
      · simp only [List.mem_singleton] at ha; rw [ha]; exact hy
set_option maxHeartbeats 8000000 in
set_option maxRecDepth 100000 in
theorem stepMay_c (l : List Jp) (v : Value) (w : World) (h : Jw w [] v l) : Calls Tryz.prog 99 #[v] w fun e w' => e = .returned (.bool (mayJ l)) ∧ Ext w w' := by
  obtain ⟨A, cap, rfl, hl, hm, hat⟩ := jw_form h
  unfold maxLen at hm
  replace hat := hide hat
  clear h
  obtain ⟨R, hR⟩ : ∃ R, R = mayJ l := ⟨_, rfl⟩
  rw [← hR]
  by_cases h8 : l.length ≤ 1024
  · have h8I : (l.length : Int) ≤ 1024 := by omega
    have h80 := hide h8
    replace hR := hide hR
    clear h8
    go_enter Tryz.func99, Tryz.ntmps99
    go_wp2_with fail
    go_loopg [10] l.length (fun gh i wr => ∃ (k : Nat), i = .int .i64 k ∧ k + gh = l.length ∧ Hid (mayJ (l.take k) = true) ∧ Ext w wr)
    case atStart => exact ⟨0, rfl, by omega, mayJ_nil, Ext.refl w⟩
    case round =>
      obtain ⟨k, rfl, hk, hpre, hX⟩ := hrel
      by_cases hlt : k < l.length
      · obtain ⟨x, hx⟩ : ∃ x, l[k]? = some x := ⟨_, List.getElem?_eq_getElem hlt⟩
        have hat' := hat
        obtain ⟨b, o, rfl, -, hb, c0, c1⟩ := hat.out k x hx
        have k0 := jcell_later hX c0
        have k1 := jcell_later hX c1
        have hbr : b < wr.heap.size := block_lt_of_cell k0
        haveI : In b wr := ⟨hbr⟩
        clear c0 c1
        obtain ⟨xp, xn⟩ := x
        have hi := hide (fun w => isInstant_c xp w)
        have ht := hide (fun w => isTooGreat_c (xp, xn) w)
        cases hok : okJ (xp, xn)
        · have hR2 : Hid (R = false) := by show _ = _; rw [hR.out]; exact mayJ_bad hx hok
          clear hx hpre
          cases hI : instB xp
          · rw [hI] at hi
            replace hI := hide hI
            go_wp2_with (first | (go_at_call 143; (with_reducible refine seq_gw (hi.out _) ?_); intro g) | (go_at_call 127; (with_reducible refine seq_gw' (ht.out _) ?_); intro g2))
            go_returns
            exact ⟨by rw [hR2.out]; rfl, (hX.alloc _).trans g.grown⟩
          · rw [hI] at hi
            by_cases h0 : xn = 0
            · subst h0
              replace hI := hide hI
              go_wp2_with (first | (go_at_call 143; (with_reducible refine seq_gw (hi.out _) ?_); intro g) | (go_at_call 127; (with_reducible refine seq_gw' (ht.out _) ?_); intro g2))
              go_returns
              exact ⟨by rw [hR2.out]; rfl, (hX.alloc _).trans g.grown⟩
            · have hz : (xn == 0) = false := by simp [h0]
              have hT : tooJ (xp, xn) = true := by
                cases hT : tooJ (xp, xn)
                · exfalso
                  have h1 := inst_yes hI
                  unfold tooJ at hT; rw [decide_eq_false_iff_not] at hT
                  unfold okJ at hok; rw [decide_eq_false_iff_not] at hok
                  simp only at hT hok; omega
                · rfl
              rw [hT] at ht
              replace hT := hide hT
              replace hI := hide hI
              replace hok := hide hok
              clear h0
              go_wp2_with (first | (go_at_call 143; (with_reducible refine seq_gw (hi.out _) ?_); intro g) | (go_at_call 127; (with_reducible refine seq_gw' (ht.out _) ?_); intro g2))
              go_returns
              exact ⟨by rw [hR2.out]; rfl, (hX.alloc _).trans g2.grown⟩
        · obtain ⟨ok1, ok2, ok3, ok4, ok5⟩ := okJ_iff.1 hok
          simp only at ok1 ok2 ok3 ok4 ok5
          have hI : instB xp = true := by unfold instB; rw [decide_eq_true_iff]; omega
          have hT : tooJ (xp, xn) = false := by unfold tooJ; rw [decide_eq_false_iff_not]; simp only; omega
          have hz : (xn == 0) = false := by simp; omega
          rw [hI] at hi
          rw [hT] at ht
          replace hI := hide hI
          replace hT := hide hT
          clear ok1 ok2 ok3 ok4 ok5
          rcases k with _ | q
          · have hnext : Hid (mayJ (l.take (0 + 1)) = true) := mayJ_more h80.out hpre.out hx hok (fun q y e => by cases e)
            clear hx hpre hat
            replace hok := hide hok
            simp only [Nat.zero_mul, Nat.add_zero] at k0 k1
            go_wp2_with (first | (go_at_call 143; (with_reducible refine seq_gw (hi.out _) ?_); intro g) | (go_at_call 127; (with_reducible refine seq_gw' (ht.out _) ?_); intro g2))
            go_quiet (fail)
            go_wp2_with fail
            go_roundg (l.length - 1)
            case measure => omega
            case rel => exact ⟨0 + 1, by go_num, by omega, hnext, ((hX.alloc _).trans g2.grown).drewN _⟩
          · have hq : q < l.length := by omega
            obtain ⟨y, hy⟩ : ∃ y, l[q]? = some y := ⟨_, List.getElem?_eq_getElem hq⟩
            obtain ⟨b2, o2, e2, -, hb2, c2, -⟩ := hat.out q y hy
            obtain ⟨rfl, rfl⟩ : b = b2 ∧ o = o2 := by simpa using e2
            have k2 := jcell_later hX c2
            obtain ⟨yp, yn⟩ := y
            have hqI : (q : Int) < l.length := by omega
            have hwq : IntKind.i64.wrap (q : Int) = q := wrapN (by omega)
            clear e2 hb2 c2
            by_cases hle : xp ≤ yp
            · have hR2 : Hid (R = false) := by show _ = _; rw [hR.out]; exact mayJ_desc hy hx hle
              have dle : decide (xp ≤ yp) = true := by rw [decide_eq_true_iff]; exact hle
              clear hx hy hpre hat
              replace hok := hide hok
              go_wp2_with (first | (go_at_call 143; (with_reducible refine seq_gw (hi.out _) ?_); intro g) | (go_at_call 127; (with_reducible refine seq_gw' (ht.out _) ?_); intro g2))
              go_quiet (fail)
              go_wp2_with fail
              go_returns
              exact ⟨by rw [hR2.out]; rfl, ((hX.alloc _).trans g2.grown).drewN _⟩
            · have hnext : Hid (mayJ (l.take (q + 1 + 1)) = true) := mayJ_more h80.out hpre.out hx hok (fun q' y' e hy' => by
                obtain rfl : q = q' := by omega
                rw [hy] at hy'; cases hy'; simp only; omega)
              have dle : decide (xp ≤ yp) = false := by rw [decide_eq_false_iff_not]; exact hle
              clear hx hy hpre hat hle
              replace hok := hide hok
              go_wp2_with (first | (go_at_call 143; (with_reducible refine seq_gw (hi.out _) ?_); intro g) | (go_at_call 127; (with_reducible refine seq_gw' (ht.out _) ?_); intro g2))
              go_quiet (fail)
              clear hwq
              go_wp2_with fail
              go_roundg (l.length - (q + 1 + 1))
              case measure => omega
              case rel => exact ⟨q + 1 + 1, by go_num, by omega, hnext, ((hX.alloc _).trans g2.grown).drewN _⟩
      · have hk' : k = l.length := by omega
        have hge : (l.length : Int) ≤ k := by omega
        have hR2 : Hid (R = true) := by
          show _ = _
          have := hpre.out
          rw [hk', List.take_length] at this
          rw [hR.out]; exact this
        replace hk' := hide hk'
        clear hpre
        go_wp2_with fail
        go_returns
        exact ⟨by rw [hR2.out]; rfl, hX⟩
  · have e : R = false := by rw [hR]; unfold mayJ; rw [decide_eq_false h8, Bool.false_and]
    have h8' : (1024 : Int) < l.length := by omega
    subst e
    clear h8 hR
    go_enter Tryz.func99, Tryz.ntmps99
    go_wp2_with fail
    go_returns
    exact ⟨rfl, Ext.refl w⟩
set_option maxHeartbeats 8000000 in
set_option maxRecDepth 100000 in
theorem refStepMay_c (l : List Jp) (v : Value) (w : World) (h : Jw w [] v l) : Calls Tryz.prog 114 #[v] w fun e w' => e = .returned (.bool (mayJ l)) ∧ Ext w w' := by
  obtain ⟨A, cap, rfl, hl, hm, hat⟩ := jw_form h
  unfold maxLen at hm
  replace hat := hide hat
  clear h
  obtain ⟨R, hR⟩ : ∃ R, R = mayJ l := ⟨_, rfl⟩
  rw [← hR]
  by_cases h8 : l.length ≤ 1024
  · have h8I : (l.length : Int) ≤ 1024 := by omega
    have h80 := hide h8
    replace hR := hide hR
    clear h8
    go_enter Tryz.func114, Tryz.ntmps114
    go_wp2_with fail
    go_loopg [3] l.length (fun gh i wr => ∃ (k : Nat), i = .int .i64 k ∧ k + gh = l.length ∧ Hid (mayJ (l.take k) = true) ∧ Ext w wr)
    case atStart => exact ⟨0, rfl, by omega, mayJ_nil, Ext.refl w⟩
    case round =>
      obtain ⟨k, rfl, hk, hpre, hX⟩ := hrel
      by_cases hlt : k < l.length
      · obtain ⟨x, hx⟩ : ∃ x, l[k]? = some x := ⟨_, List.getElem?_eq_getElem hlt⟩
        have hat' := hat
        obtain ⟨b, o, rfl, -, hb, c0, c1⟩ := hat.out k x hx
        have k0 := jcell_later hX c0
        have k1 := jcell_later hX c1
        have hbr : b < wr.heap.size := block_lt_of_cell k0
        haveI : In b wr := ⟨hbr⟩
        clear c0 c1
        obtain ⟨xp, xn⟩ := x
        cases hok : okJ (xp, xn)
        · have hR2 : Hid (R = false) := by show _ = _; rw [hR.out]; exact mayJ_bad hx hok
          clear hx hpre
          by_cases h1 : xp < -1
          · go_wp2_with fail
            go_returns
            exact ⟨by rw [hR2.out]; rfl, hX⟩
          · have d1 : decide (xp < -1) = false := by rw [decide_eq_false_iff_not]; exact h1
            by_cases h2 : 1125899906842624 ≤ xp
            · replace h1 := hide h1
              go_wp2_with fail
              go_returns
              exact ⟨by rw [hR2.out]; rfl, hX⟩
            · have d2 : decide (1125899906842624 ≤ xp) = false := by rw [decide_eq_false_iff_not]; exact h2
              by_cases h3 : xn = 0
              · subst h3
                replace h1 := hide h1
                replace h2 := hide h2
                replace hok := hide hok
                go_wp2_with fail
                go_returns
                exact ⟨by rw [hR2.out]; rfl, hX⟩
              · have d3 : (xn == 0) = false := by simp [h3]
                by_cases h4 : 1048576 < xn
                · replace h1 := hide h1
                  replace h2 := hide h2
                  replace h3 := hide h3
                  replace hok := hide hok
                  go_wp2_with fail
                  go_returns
                  exact ⟨by rw [hR2.out]; rfl, hX⟩
                · have d4 : decide (1048576 < xn) = false := by rw [decide_eq_false_iff_not]; exact h4
                  have h5 : xn < -1048576 := by
                    unfold okJ at hok; rw [decide_eq_false_iff_not] at hok; simp only at hok; omega
                  replace h1 := hide h1
                  replace h2 := hide h2
                  replace h3 := hide h3
                  replace h4 := hide h4
                  replace hok := hide hok
                  go_wp2_with fail
                  go_returns
                  exact ⟨by rw [hR2.out]; rfl, hX⟩
        · obtain ⟨ok1, ok2, ok3, ok4, ok5⟩ := okJ_iff.1 hok
          simp only at ok1 ok2 ok3 ok4 ok5
          have d1 : decide (xp < -1) = false := by rw [decide_eq_false_iff_not]; omega
          have d2 : decide (1125899906842624 ≤ xp) = false := by rw [decide_eq_false_iff_not]; omega
          have d3 : (xn == 0) = false := by simp; omega
          have d4 : decide (1048576 < xn) = false := by rw [decide_eq_false_iff_not]; omega
          have d5 : decide (xn < -1048576) = false := by rw [decide_eq_false_iff_not]; omega
          clear ok1 ok2 ok3 ok4 ok5
          rcases k with _ | q
          · have hnext : Hid (mayJ (l.take (0 + 1)) = true) := mayJ_more h80.out hpre.out hx hok (fun q y e => by cases e)
            clear hx hpre hat
            replace hok := hide hok
            simp only [Nat.zero_mul, Nat.add_zero] at k0 k1
            go_wp2_with fail
            go_quiet (fail)
            go_wp2_with fail
            go_roundg (l.length - 1)
            case measure => omega
            case rel => exact ⟨0 + 1, by go_num, by omega, hnext, hX.drewN _⟩
          · have hq : q < l.length := by omega
            obtain ⟨y, hy⟩ : ∃ y, l[q]? = some y := ⟨_, List.getElem?_eq_getElem hq⟩
            obtain ⟨b2, o2, e2, -, hb2, c2, -⟩ := hat.out q y hy
            obtain ⟨rfl, rfl⟩ : b = b2 ∧ o = o2 := by simpa using e2
            have k2 := jcell_later hX c2
            obtain ⟨yp, yn⟩ := y
            have hqI : (q : Int) < l.length := by omega
            have hwq : IntKind.i64.wrap (q : Int) = q := wrapN (by omega)
            clear e2 hb2 c2
            by_cases hle : xp ≤ yp
            · have hR2 : Hid (R = false) := by show _ = _; rw [hR.out]; exact mayJ_desc hy hx hle
              have dle : decide (xp ≤ yp) = true := by rw [decide_eq_true_iff]; exact hle
              clear hx hy hpre hat
              replace hok := hide hok
              go_wp2_with fail
              go_quiet (fail)
              go_wp2_with fail
              go_returns
              exact ⟨by rw [hR2.out]; rfl, hX.drewN _⟩
            · have hnext : Hid (mayJ (l.take (q + 1 + 1)) = true) := mayJ_more h80.out hpre.out hx hok (fun q' y' e hy' => by
                obtain rfl : q = q' := by omega
                rw [hy] at hy'; cases hy'; simp only; omega)
              have dle : decide (xp ≤ yp) = false := by rw [decide_eq_false_iff_not]; exact hle
              clear hx hy hpre hat hle
              replace hok := hide hok
              go_wp2_with fail
              go_quiet (fail)
              clear hwq
              go_wp2_with fail
              go_roundg (l.length - (q + 1 + 1))
              case measure => omega
              case rel => exact ⟨q + 1 + 1, by go_num, by omega, hnext, hX.drewN _⟩
      · have hk' : k = l.length := by omega
        have hge : (l.length : Int) ≤ k := by omega
        have hR2 : Hid (R = true) := by
          show _ = _
          have := hpre.out
          rw [hk', List.take_length] at this
          rw [hR.out]; exact this
        replace hk' := hide hk'
        clear hpre
        go_wp2_with fail
        go_returns
        exact ⟨by rw [hR2.out]; rfl, hX⟩
  · have e : R = false := by rw [hR]; unfold mayJ; rw [decide_eq_false h8, Bool.false_and]
    have h8' : (1024 : Int) < l.length := by omega
    subst e
    clear h8 hR
    go_enter Tryz.func114, Tryz.ntmps114
    go_wp2_with fail
    go_returns
    exact ⟨rfl, Ext.refl w⟩
end Go.Proofs.YtljkneajdndgjaaGreat
set_option linter.unusedVariables false
set_option linter.unusedSimpArgs false
namespace Go.Proofs.YtljkneajdndgjaaGreat
open Go.RowKit
attribute [local go_sem] GW.cell GW.frozen In.eq_true In.le_true In.ne In.ne' In.ne_add In.ne_add' In.lt_add Upto.le_true Upto.le_add Upto.lt_add
theorem jv_small {l : List Jp} (hb : ∀ j ∈ l, -1048576 ≤ j.2 ∧ j.2 ≤ 1048576) (hn : l.length ≤ 4096) (k : Nat) (t : Int) : -4294967296 ≤ jv (l.take k) t ∧ jv (l.take k) t ≤ 4294967296 := by
  have h1 := jv_bound (K := 1048576) (by omega) (fun j hj => hb j (List.mem_of_mem_take hj)) t (f := l.take k)
  have h2 : (l.take k).length ≤ 4096 := by rw [List.length_take]; omega
  omega
theorem js_small {l : List Jp} (hb : ∀ j ∈ l, -1048576 ≤ j.2 ∧ j.2 ≤ 1048576) (hn : l.length ≤ 4096) (k : Nat) : -4294967296 ≤ js (l.take k) ∧ js (l.take k) ≤ 4294967296 := by
  have h1 := js_bound (K := 1048576) (by omega) (fun j hj => hb j (List.mem_of_mem_take hj)) (f := l.take k)
  have h2 : (l.take k).length ≤ 4096 := by rw [List.length_take]; omega
  omega
theorem jv_next {l : List Jp} {k : Nat} {x : Jp} (hx : l[k]? = some x) (t : Int) : jv (l.take (k + 1)) t = if x.1 ≤ t then jv (l.take k) t + x.2 else jv (l.take k) t := by
  rw [take_snoc hx, jv_snoc]; split <;> omega
set_option maxHeartbeats 4000000 in
set_option maxRecDepth 100000 in
theorem refValue_c (l : List Jp) (hb : ∀ j ∈ l, -1048576 ≤ j.2 ∧ j.2 ≤ 1048576) (hn : l.length ≤ 4096) (t : Int) (v : Value) (w : World) (h : Jw w [] v l) : Calls Tryz.prog 140 #[v, .int .i64 t] w fun e w' => e = .returned (.int .i64 (jv l t)) ∧ Ext w w' := by
  obtain ⟨A, cap, rfl, hl, hm, hat⟩ := jw_form h
  unfold maxLen at hm
  replace hat := hide hat
  clear h
  obtain ⟨R, hR⟩ : ∃ R, R = jv l t := ⟨_, rfl⟩
  rw [← hR]
  replace hR := hide hR
  have hnI : (l.length : Int) ≤ 4096 := by omega
  replace hn := hide hn
  replace hb := hide hb
  go_enter Tryz.func140, Tryz.ntmps140
  go_wp2_with fail
  go_loopg [5, 6] l.length (fun gh s i wr => ∃ (k : Nat) (z : Int), i = .int .i64 k ∧ s = .int .i64 z ∧ k + gh = l.length ∧ Hid (z = jv (l.take k) t) ∧ Ext w wr)
  case atStart => exact ⟨0, 0, rfl, rfl, by omega, rfl, Ext.refl w⟩
  case round =>
    obtain ⟨k, z, rfl, rfl, hk, hz, hX⟩ := hrel
    by_cases hlt : k < l.length
    · obtain ⟨x, hx⟩ : ∃ x, l[k]? = some x := ⟨_, List.getElem?_eq_getElem hlt⟩
      obtain ⟨b, o, rfl, -, hbl, c0, c1⟩ := hat.out k x hx
      have k0 := jcell_later hX c0
      have k1 := jcell_later hX c1
      have hbr : b < wr.heap.size := block_lt_of_cell k0
      obtain ⟨z1, z2⟩ := (show -4294967296 ≤ z ∧ z ≤ 4294967296 by have := hz.out; rw [this]; exact jv_small hb.out hn.out k t)
      obtain ⟨n1, n2⟩ := hb.out x (List.mem_of_getElem? hx)
      have hnx := jv_next hx t
      rw [← hz.out] at hnx
      clear c0 c1 hx hz
      obtain ⟨xp, xn⟩ := x
      simp only at n1 n2 hnx k0 k1
      by_cases hle : xp ≤ t
      · rw [if_pos hle] at hnx
        replace hnx := hide hnx
        go_wp2_with fail
        go_roundg (l.length - (k + 1))
        case measure => omega
        case rel => exact ⟨k + 1, z + xn, by go_num, by go_num, by omega, hnx.out.symm, hX⟩
      · have d : decide (xp ≤ t) = false := by rw [decide_eq_false_iff_not]; exact hle
        rw [if_neg hle] at hnx
        replace hnx := hide hnx
        clear hle
        go_wp2_with fail
        go_roundg (l.length - (k + 1))
        case measure => omega
        case rel => exact ⟨k + 1, z, by go_num, rfl, by omega, hnx.out.symm, hX⟩
    · have hk' : k = l.length := by omega
      have hge : (l.length : Int) ≤ k := by omega
      have hR2 : Hid (R = z) := by show _ = _; have := hz.out; rw [hk', List.take_length] at this; rw [hR.out]; exact this.symm
      replace hk' := hide hk'
      clear hz hR
      go_wp2_with fail
      go_returns
      exact ⟨by rw [hR2.out]; rfl, hX⟩
set_option maxHeartbeats 4000000 in
set_option maxRecDepth 100000 in
theorem stepAt_c (l : List Jp) (t : Int) (v : Value) (w : World) (h : Jw w [] v l) : Calls Tryz.prog 119 #[v, .int .i64 t] w fun e w' => e = .returned (.int .i64 (atV l t)) ∧ Ext w w' := by
  have hm := hide (stepMay_c l v w h)
  obtain ⟨A, cap, rfl, hl, hmc, hat⟩ := jw_form h
  unfold maxLen at hmc
  replace hat := hide hat
  unfold atV
  clear h
  cases hb : mayJ l
  · rw [hb] at hm
    rw [if_neg (by decide)]
    replace hb := hide hb
    clear hat
    go_enter Tryz.func119, Tryz.ntmps119
    go_wp2_with (go_at_call 99; (with_reducible refine seq_gw hm.out ?_); intro g)
    go_returns
    exact ⟨rfl, g.grown⟩
  · rw [hb] at hm
    rw [if_pos rfl]
    have hnet := hide (mayJ_net hb)
    have hn := hide (show l.length ≤ 4096 by have := mayJ_len hb; omega)
    have hnI : (l.length : Int) ≤ 4096 := by have := hn.out; omega
    obtain ⟨R, hR⟩ : ∃ R, R = jv l t := ⟨_, rfl⟩
    rw [← hR]
    replace hR := hide hR
    replace hb := hide hb
    go_enter Tryz.func119, Tryz.ntmps119
    go_wp2_with (go_at_call 99; (with_reducible refine seq_gw hm.out ?_); intro g)
    go_loopg [5, 13] l.length (fun gh s i wr => ∃ (k : Nat) (z : Int), i = .int .i64 k ∧ s = .int .i64 z ∧ k + gh = l.length ∧ Hid (z = jv (l.take k) t) ∧ Ext w wr)
    case atStart => exact ⟨0, 0, rfl, rfl, by omega, rfl, g.grown⟩
    case round =>
      obtain ⟨k, z, rfl, rfl, hk, hz, hX⟩ := hrel
      by_cases hlt : k < l.length
      · obtain ⟨x, hx⟩ : ∃ x, l[k]? = some x := ⟨_, List.getElem?_eq_getElem hlt⟩
        obtain ⟨b, o, rfl, -, hbl, c0, c1⟩ := hat.out k x hx
        have k0 := jcell_later hX c0
        have k1 := jcell_later hX c1
        have hbr : b < wr.heap.size := block_lt_of_cell k0
        obtain ⟨z1, z2⟩ := (show -4294967296 ≤ z ∧ z ≤ 4294967296 by have := hz.out; rw [this]; exact jv_small hnet.out hn.out k t)
        obtain ⟨n1, n2⟩ := hnet.out x (List.mem_of_getElem? hx)
        have hnx := jv_next hx t
        rw [← hz.out] at hnx
        clear c0 c1 hx hz
        obtain ⟨xp, xn⟩ := x
        simp only at n1 n2 hnx k0 k1
        by_cases hle : xp ≤ t
        · rw [if_pos hle] at hnx
          replace hnx := hide hnx
          go_wp2_with fail
          go_roundg (l.length - (k + 1))
          case measure => omega
          case rel => exact ⟨k + 1, z + xn, by go_num, by go_num, by omega, hnx.out.symm, hX.alloc _⟩
        · have d : decide (xp ≤ t) = false := by rw [decide_eq_false_iff_not]; exact hle
          rw [if_neg hle] at hnx
          replace hnx := hide hnx
          clear hle
          go_wp2_with fail
          go_roundg (l.length - (k + 1))
          case measure => omega
          case rel => exact ⟨k + 1, z, by go_num, rfl, by omega, hnx.out.symm, hX.alloc _⟩
      · have hk' : k = l.length := by omega
        have hge : (l.length : Int) ≤ k := by omega
        have hR2 : Hid (R = z) := by show _ = _; have := hz.out; rw [hk', List.take_length] at this; rw [hR.out]; exact this.symm
        replace hk' := hide hk'
        clear hz hR
        go_wp2_with fail
        go_returns
        exact ⟨by rw [hR2.out]; rfl, hX⟩
theorem atV_of {l : List Jp} (h : mayJ l = true) (t : Int) : atV l t = jv l t := by unfold atV; rw [if_pos h]
theorem js_here {l : List Jp} (h : mayJ l = true) {k : Nat} {x : Jp} (hx : l[k]? = some x) : js (l.take (k + 1)) = jv l x.1 := by
  rw [take_snoc hx]
  have e : l = l.take k ++ x :: l.drop (k + 1) := by rw [← jdrop_cons hx, List.take_append_drop]
  have := js_at (f1 := l.take k) (f2 := l.drop (k + 1)) (j := x) (by rw [← e]; exact (mayJ_iff.1 h).2.2)
  rw [← e] at this
  exact this
theorem js_next {l : List Jp} {k : Nat} {x : Jp} (hx : l[k]? = some x) : js (l.take (k + 1)) = js (l.take k) + x.2 := by rw [take_snoc hx, js_snoc]
theorem le_next {l : List Jp} {k : Nat} {x : Jp} (m : Int) (hx : l[k]? = some x) : leF l m (l.take (k + 1)) = min (leF l m (l.take k)) (jv l x.1) := by rw [take_snoc hx, leF_snoc]
set_option maxHeartbeats 4000000 in
set_option maxRecDepth 100000 in
theorem stepLeast_c (l : List Jp) (v : Value) (w : World) (h : Jw w [] v l) : Calls Tryz.prog 105 #[v] w fun e w' => e = .returned (.int .i64 (leV l)) ∧ Ext w w' := by
  have hm := hide (stepMay_c l v w h)
  have ha := hide (fun w' (hX : Ext w w') => stepAt_c l (-1) v w' (Sl.ext h hX))
  obtain ⟨A, cap, rfl, hl, hmc, hat⟩ := jw_form h
  unfold maxLen at hmc
  replace hat := hide hat
  unfold leV
  clear h
  cases hb : mayJ l
  · rw [hb] at hm
    rw [if_neg (by decide)]
    replace hb := hide hb
    clear hat ha
    go_enter Tryz.func105, Tryz.ntmps105
    go_wp2_with (go_at_call 99; (with_reducible refine seq_gw hm.out ?_); intro g)
    go_returns
    exact ⟨rfl, g.grown⟩
  · rw [hb] at hm
    rw [if_pos rfl]
    rw [atV_of hb] at ha
    have hnet := hide (mayJ_net hb)
    have hn := hide (show l.length ≤ 4096 by have := mayJ_len hb; omega)
    have hnI : (l.length : Int) ≤ 4096 := by have := hn.out; omega
    obtain ⟨m0, hm0⟩ : ∃ m0, m0 = jv l (-1) := ⟨_, rfl⟩
    rw [← hm0] at ha ⊢
    obtain ⟨R, hR⟩ : ∃ R, R = leF l m0 l := ⟨_, rfl⟩
    rw [← hR]
    replace hR := hide hR
    replace hb := hide hb
    replace hm0 := hide hm0
    go_enter Tryz.func105, Tryz.ntmps105
    go_wp2_with (first | (go_at_call 99; (with_reducible refine seq_gw hm.out ?_); intro g) | (go_at_call 119; (with_reducible refine seq_gw' (ha.out _ g.grown) ?_); intro g2))
    go_loopg [3, 4, 14] l.length (fun gh m s i wr => ∃ (k : Nat) (y z : Int), i = .int .i64 k ∧ s = .int .i64 z ∧ m = .int .i64 y ∧ k + gh = l.length ∧ Hid (z = js (l.take k)) ∧ Hid (y = leF l m0 (l.take k)) ∧ Ext w wr)
    case atStart => exact ⟨0, m0, 0, rfl, rfl, rfl, by omega, rfl, rfl, g2.grown⟩
    case round =>
      clear ha
      obtain ⟨k, y, z, rfl, rfl, rfl, hk, hz, hy, hX⟩ := hrel
      by_cases hlt : k < l.length
      · obtain ⟨x, hx⟩ : ∃ x, l[k]? = some x := ⟨_, List.getElem?_eq_getElem hlt⟩
        obtain ⟨b, o, rfl, -, hbl, c0, c1⟩ := hat.out k x hx
        have k0 := jcell_later hX c0
        have k1 := jcell_later hX c1
        have hbr : b < wr.heap.size := block_lt_of_cell k0
        obtain ⟨z1, z2⟩ := (show -4294967296 ≤ z ∧ z ≤ 4294967296 by have := hz.out; rw [this]; exact js_small hnet.out hn.out k)
        obtain ⟨n1, n2⟩ := hnet.out x (List.mem_of_getElem? hx)
        have hnx := js_next hx
        rw [← hz.out] at hnx
        have hny := le_next m0 hx
        rw [← hy.out, ← js_here hb.out hx, hnx] at hny
        clear c0 c1 hx hz hy
        obtain ⟨xp, xn⟩ := x
        simp only at n1 n2 hnx hny k0 k1
        replace hnx := hide hnx
        by_cases hle : y ≤ z + xn
        · rw [Int.min_eq_left hle] at hny
          replace hny := hide hny
          have d1 : decide (z + xn < y) = false := by rw [decide_eq_false_iff_not]; omega
          go_wp2_with fail
          go_roundg (l.length - (k + 1))
          case measure => omega
          case rel => exact ⟨k + 1, y, z + xn, by go_num, by go_num, by simp [hle], by omega, hnx.out.symm, hny.out.symm, hX.alloc _⟩
        · have hle' : z + xn < y := by omega
          rw [Int.min_eq_right (by omega)] at hny
          replace hny := hide hny
          clear hle
          go_wp2_with fail
          go_roundg (l.length - (k + 1))
          case measure => omega
          case rel => exact ⟨k + 1, z + xn, z + xn, by go_num, by go_num, by simp [hle'], by omega, hnx.out.symm, hny.out.symm, hX.alloc _⟩
      · have hk' : k = l.length := by omega
        have hge : (l.length : Int) ≤ k := by omega
        have hR2 : Hid (R = y) := by show _ = _; have := hy.out; rw [hk', List.take_length] at this; rw [hR.out]; exact this.symm
        replace hk' := hide hk'
        clear hz hR hy
        go_wp2_with fail
        go_returns
        exact ⟨by rw [hR2.out]; rfl, hX⟩
set_option maxHeartbeats 4000000 in
set_option maxRecDepth 100000 in
theorem refStepLeast_c (l : List Jp) (v : Value) (w : World) (h : Jw w [] v l) : Calls Tryz.prog 116 #[v] w fun e w' => e = .returned (.int .i64 (leV l)) ∧ Ext w w' := by
  have hm := hide (refStepMay_c l v w h)
  have hv := hide (fun (hb : ∀ j ∈ l, -1048576 ≤ j.2 ∧ j.2 ≤ 1048576) (hn : l.length ≤ 4096) t w' (hX : Ext w w') => refValue_c l hb hn t v w' (Sl.ext h hX))
  obtain ⟨A, cap, rfl, hl, hmc, hat⟩ := jw_form h
  unfold maxLen at hmc
  replace hat := hide hat
  unfold leV
  clear h
  cases hb : mayJ l
  · rw [hb] at hm
    rw [if_neg (by decide)]
    replace hb := hide hb
    clear hat hv
    go_enter Tryz.func116, Tryz.ntmps116
    go_wp2_with (go_at_call 114; (with_reducible refine seq_gw hm.out ?_); intro g)
    go_returns
    exact ⟨rfl, g.grown⟩
  · rw [hb] at hm
    rw [if_pos rfl]
    have hv' := hide (hv.out (mayJ_net hb) (by have := mayJ_len hb; omega))
    have hn := hide (show l.length ≤ 4096 by have := mayJ_len hb; omega)
    have hnI : (l.length : Int) ≤ 4096 := by have := hn.out; omega
    obtain ⟨m0, hm0⟩ : ∃ m0, m0 = jv l (-1) := ⟨_, rfl⟩
    have hv1 := hide (hv'.out (-1))
    rw [← hm0] at hv1 ⊢
    obtain ⟨R, hR⟩ : ∃ R, R = leF l m0 l := ⟨_, rfl⟩
    rw [← hR]
    replace hR := hide hR
    replace hb := hide hb
    replace hm0 := hide hm0
    clear hv
    go_enter Tryz.func116, Tryz.ntmps116
    go_wp2_with (first | (go_at_call 114; (with_reducible refine seq_gw hm.out ?_); intro g) | (go_at_call 140; (with_reducible refine seq_gw' (hv1.out _ g.grown) ?_); intro g2))
    go_loopg [3, 4] l.length (fun gh m i wr => ∃ (k : Nat) (y : Int), i = .int .i64 k ∧ m = .int .i64 y ∧ k + gh = l.length ∧ Hid (y = leF l m0 (l.take k)) ∧ Ext w wr)
    case atStart => exact ⟨0, m0, rfl, rfl, by omega, rfl, g2.grown⟩
    case round =>
      clear hv1
      obtain ⟨k, y, rfl, rfl, hk, hy, hX⟩ := hrel
      by_cases hlt : k < l.length
      · obtain ⟨x, hx⟩ : ∃ x, l[k]? = some x := ⟨_, List.getElem?_eq_getElem hlt⟩
        obtain ⟨b, o, rfl, -, hbl, c0, c1⟩ := hat.out k x hx
        have k0 := jcell_later hX c0
        have hbr : b < wr.heap.size := block_lt_of_cell k0
        haveI : In b wr := ⟨hbr⟩
        have hny := le_next m0 hx
        rw [← hy.out] at hny
        clear c0 c1 hx hy
        obtain ⟨xp, xn⟩ := x
        simp only at hny k0
        have hv2 := hide (hv'.out xp)
        obtain ⟨z, hz⟩ : ∃ z, z = jv l xp := ⟨_, rfl⟩
        rw [← hz] at hny hv2
        clear hz
        by_cases hle : z < y
        · rw [Int.min_eq_right (by omega)] at hny
          replace hny := hide hny
          go_wp2_with (go_at_call 140; (with_reducible first | (refine seq_gw (hv2.out _ hX) ?_) | (refine seq_gw' (hv2.out _ (hX.trans g5.grown)) ?_)); intro g5)
          go_roundg (l.length - (k + 1))
          case measure => omega
          case rel => exact ⟨k + 1, z, by go_num, rfl, by omega, hny.out.symm, hX.trans g5.grown⟩
        · have d : decide (z < y) = false := by rw [decide_eq_false_iff_not]; exact hle
          rw [Int.min_eq_left (by omega)] at hny
          replace hny := hide hny
          clear hle
          go_wp2_with (go_at_call 140; (with_reducible refine seq_gw (hv2.out _ hX) ?_); intro g5)
          go_roundg (l.length - (k + 1))
          case measure => omega
          case rel => exact ⟨k + 1, y, by go_num, rfl, by omega, hny.out.symm, hX.trans g5.grown⟩
      · have hk' : k = l.length := by omega
        have hge : (l.length : Int) ≤ k := by omega
        have hR2 : Hid (R = y) := by show _ = _; have := hy.out; rw [hk', List.take_length] at this; rw [hR.out]; exact this.symm
        replace hk' := hide hk'
        clear hR hy
        go_wp2_with fail
        go_returns
        exact ⟨by rw [hR2.out]; rfl, hX⟩
end Go.Proofs.YtljkneajdndgjaaGreat
set_option linter.unusedVariables false
set_option linter.unusedSimpArgs false
namespace Go.Proofs.YtljkneajdndgjaaGreat
open Go.RowKit
attribute [local go_sem] GW.cell GW.frozen In.eq_true In.le_true In.ne In.ne' In.ne_add In.ne_add' In.lt_add Upto.le_true Upto.le_add Upto.lt_add
attribute [-go_sem] sliced
attribute [local go_sem] sliced_eq
end Go.Proofs.YtljkneajdndgjaaGreat
