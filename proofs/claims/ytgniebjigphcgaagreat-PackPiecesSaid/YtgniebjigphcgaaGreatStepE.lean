/-
  A helper of ours: no claim of its own. Layer 9 (step): the other sign, and parts, by the code.
-/
import Derived.Test.YtgniebjigphcgaaGreatStepA
set_option linter.unusedVariables false
set_option linter.unusedSimpArgs false
namespace Go.Proofs.YtgniebjigphcgaaGreat
open Go.RowKit
attribute [local go_sem] GW.cell GW.frozen In.eq_true In.le_true In.ne In.ne' In.ne_add In.ne_add' In.lt_add Upto.le_true Upto.le_add Upto.lt_add
/-- The first place from k on that holds such a one, or -1. -/
def jidxP (p : Jp → Bool) : Nat → List Jp → Int
  | _, [] => -1
  | k, x :: r => if p x then k else jidxP p (k + 1) r
theorem jidxP_ge (p : Jp → Bool) : ∀ (k : Nat) (l : List Jp), decide ((0 : Int) ≤ jidxP p k l) = l.any p
  | _, [] => rfl
  | k, x :: r => by
    rw [List.any_cons]
    cases h : p x
    · have e : jidxP p k (x :: r) = jidxP p (k + 1) r := by simp [jidxP, h]
      rw [e, Bool.false_or]; exact jidxP_ge p (k + 1) r
    · have e : jidxP p k (x :: r) = (k : Int) := by simp [jidxP, h]
      rw [e]; simp
set_option maxHeartbeats 2000000 in
theorem indexToo_c (l : List Jp) (v : Value) (w : World) (h : Jw w [] v l) : Calls Tryz.prog 129 #[v, .func (.func 69) #[] #[]] w fun e w' => e = .returned (.int .i64 (jidxP tooJ 0 l)) ∧ Ext w w' := by
  obtain ⟨A, cap, rfl, hl, hm, hat⟩ := jw_form h
  unfold maxLen at hm
  replace hat := hide hat
  clear h
  obtain ⟨R, hR⟩ : ∃ R, R = jidxP tooJ 0 l := ⟨_, rfl⟩
  rw [← hR]
  replace hR := hide hR
  go_enter Tryz.func129, Tryz.ntmps129
  go_wp2_with fail
  go_loopg [8] l.length (fun gh i wr => ∃ (k : Nat), i = .int .i64 k ∧ k + gh = l.length ∧ Hid (R = jidxP tooJ k (l.drop k)) ∧ Ext w wr)
  case atStart => exact ⟨0, rfl, by omega, by simpa using hR, Ext.refl w⟩
  case round =>
    obtain ⟨k, rfl, hk, hRk, hX⟩ := hrel
    clear hR
    by_cases hlt : k < l.length
    · obtain ⟨x, hx⟩ : ∃ x, l[k]? = some x := ⟨_, List.getElem?_eq_getElem hlt⟩
      obtain ⟨b, o, rfl, -, hb, c0, c1⟩ := hat.out k x hx
      have k0 := jcell_later hX c0
      have k1 := jcell_later hX c1
      have hbr : b < wr.heap.size := block_lt_of_cell k0
      have hin := hide (fun w => isTooGreat_c x w)
      have hR2 := hRk.out
      rw [jdrop_cons hx] at hR2
      simp only [jidxP] at hR2
      replace hR2 := hide hR2
      obtain ⟨xp, xn⟩ := x
      clear c0 c1 hat hx
      cases hmx : tooJ (xp, xn)
      · rw [hmx] at hin hR2
        replace hmx := hide hmx
        go_wp2_with (go_at_call 69; (with_reducible refine seq_gw (hin.out _) ?_); intro g)
        go_roundg (l.length - (k + 1))
        case measure => omega
        case rel => exact ⟨k + 1, by go_num, by omega, hR2, hX.trans g.grown⟩
      · rw [hmx] at hin hR2
        replace hmx := hide hmx
        go_wp2_with (go_at_call 69; (with_reducible refine seq_gw (hin.out _) ?_); intro g)
        go_returns
        exact ⟨by rw [hR2.out]; rfl, hX.trans g.grown⟩
    · have hk' : k = l.length := by omega
      have hge : (l.length : Int) ≤ k := by omega
      have hR2 := hRk.out
      rw [hk', List.drop_length] at hR2
      replace hR2 := hide hR2
      replace hk' := hide hk'
      go_wp2_with fail
      go_returns
      exact ⟨by rw [hR2.out]; rfl, hX⟩
set_option maxHeartbeats 1000000 in
theorem containsToo_c (l : List Jp) (v : Value) (w : World) (h : Jw w [] v l) : Calls Tryz.prog 104 #[v, .func (.func 69) #[] #[]] w fun e w' => e = .returned (.bool (l.any tooJ)) ∧ Ext w w' := by
  have hc := hide (indexToo_c l v w h)
  have e := hide (jidxP_ge tooJ 0 l)
  generalize jidxP tooJ 0 l = z at *
  generalize l.any tooJ = m at *
  clear h
  go_enter Tryz.func104, Tryz.ntmps104
  go_wp2_with (go_at_call 129; (with_reducible refine seq_gw hc.out ?_); intro g)
  go_returns
  exact ⟨by rw [← e.out]; rfl, g.grown⟩
set_option maxHeartbeats 2000000 in
theorem indexNow_c (l : List Jp) (v : Value) (w : World) (h : Jw w [] v l) : Calls Tryz.prog 129 #[v, .func (.func 105) #[] #[]] w fun e w' => e = .returned (.int .i64 (jidxP nowJ 0 l)) ∧ Ext w w' := by
  obtain ⟨A, cap, rfl, hl, hm, hat⟩ := jw_form h
  unfold maxLen at hm
  replace hat := hide hat
  clear h
  obtain ⟨R, hR⟩ : ∃ R, R = jidxP nowJ 0 l := ⟨_, rfl⟩
  rw [← hR]
  replace hR := hide hR
  go_enter Tryz.func129, Tryz.ntmps129
  go_wp2_with fail
  go_loopg [8] l.length (fun gh i wr => ∃ (k : Nat), i = .int .i64 k ∧ k + gh = l.length ∧ Hid (R = jidxP nowJ k (l.drop k)) ∧ Ext w wr)
  case atStart => exact ⟨0, rfl, by omega, by simpa using hR, Ext.refl w⟩
  case round =>
    obtain ⟨k, rfl, hk, hRk, hX⟩ := hrel
    clear hR
    by_cases hlt : k < l.length
    · obtain ⟨x, hx⟩ : ∃ x, l[k]? = some x := ⟨_, List.getElem?_eq_getElem hlt⟩
      obtain ⟨b, o, rfl, -, hb, c0, c1⟩ := hat.out k x hx
      have k0 := jcell_later hX c0
      have k1 := jcell_later hX c1
      have hbr : b < wr.heap.size := block_lt_of_cell k0
      have hin := hide (fun w => isNowhere_c x w)
      have hR2 := hRk.out
      rw [jdrop_cons hx] at hR2
      simp only [jidxP] at hR2
      replace hR2 := hide hR2
      obtain ⟨xp, xn⟩ := x
      clear c0 c1 hat hx
      cases hmx : nowJ (xp, xn)
      · rw [hmx] at hin hR2
        replace hmx := hide hmx
        go_wp2_with (go_at_call 105; (with_reducible refine seq_gw (hin.out _) ?_); intro g)
        go_roundg (l.length - (k + 1))
        case measure => omega
        case rel => exact ⟨k + 1, by go_num, by omega, hR2, hX.trans g.grown⟩
      · rw [hmx] at hin hR2
        replace hmx := hide hmx
        go_wp2_with (go_at_call 105; (with_reducible refine seq_gw (hin.out _) ?_); intro g)
        go_returns
        exact ⟨by rw [hR2.out]; rfl, hX.trans g.grown⟩
    · have hk' : k = l.length := by omega
      have hge : (l.length : Int) ≤ k := by omega
      have hR2 := hRk.out
      rw [hk', List.drop_length] at hR2
      replace hR2 := hide hR2
      replace hk' := hide hk'
      go_wp2_with fail
      go_returns
      exact ⟨by rw [hR2.out]; rfl, hX⟩
set_option maxHeartbeats 1000000 in
theorem containsNow_c (l : List Jp) (v : Value) (w : World) (h : Jw w [] v l) : Calls Tryz.prog 104 #[v, .func (.func 105) #[] #[]] w fun e w' => e = .returned (.bool (l.any nowJ)) ∧ Ext w w' := by
  have hc := hide (indexNow_c l v w h)
  have e := hide (jidxP_ge nowJ 0 l)
  generalize jidxP nowJ 0 l = z at *
  generalize l.any nowJ = m at *
  clear h
  go_enter Tryz.func104, Tryz.ntmps104
  go_wp2_with (go_at_call 129; (with_reducible refine seq_gw hc.out ?_); intro g)
  go_returns
  exact ⟨by rw [← e.out]; rfl, g.grown⟩
set_option maxHeartbeats 2000000 in
theorem indexDrop_c (l : List Jp) (v : Value) (w : World) (h : Jw w [] v l) : Calls Tryz.prog 129 #[v, .func (.func 110) #[] #[]] w fun e w' => e = .returned (.int .i64 (jidxP dropJ 0 l)) ∧ Ext w w' := by
  obtain ⟨A, cap, rfl, hl, hm, hat⟩ := jw_form h
  unfold maxLen at hm
  replace hat := hide hat
  clear h
  obtain ⟨R, hR⟩ : ∃ R, R = jidxP dropJ 0 l := ⟨_, rfl⟩
  rw [← hR]
  replace hR := hide hR
  go_enter Tryz.func129, Tryz.ntmps129
  go_wp2_with fail
  go_loopg [8] l.length (fun gh i wr => ∃ (k : Nat), i = .int .i64 k ∧ k + gh = l.length ∧ Hid (R = jidxP dropJ k (l.drop k)) ∧ Ext w wr)
  case atStart => exact ⟨0, rfl, by omega, by simpa using hR, Ext.refl w⟩
  case round =>
    obtain ⟨k, rfl, hk, hRk, hX⟩ := hrel
    clear hR
    by_cases hlt : k < l.length
    · obtain ⟨x, hx⟩ : ∃ x, l[k]? = some x := ⟨_, List.getElem?_eq_getElem hlt⟩
      obtain ⟨b, o, rfl, -, hb, c0, c1⟩ := hat.out k x hx
      have k0 := jcell_later hX c0
      have k1 := jcell_later hX c1
      have hbr : b < wr.heap.size := block_lt_of_cell k0
      have hin := hide (fun w => hasNoEffect_c x w)
      have hR2 := hRk.out
      rw [jdrop_cons hx] at hR2
      simp only [jidxP] at hR2
      replace hR2 := hide hR2
      obtain ⟨xp, xn⟩ := x
      clear c0 c1 hat hx
      cases hmx : dropJ (xp, xn)
      · rw [hmx] at hin hR2
        replace hmx := hide hmx
        go_wp2_with (go_at_call 110; (with_reducible refine seq_gw (hin.out _) ?_); intro g)
        go_roundg (l.length - (k + 1))
        case measure => omega
        case rel => exact ⟨k + 1, by go_num, by omega, hR2, hX.trans g.grown⟩
      · rw [hmx] at hin hR2
        replace hmx := hide hmx
        go_wp2_with (go_at_call 110; (with_reducible refine seq_gw (hin.out _) ?_); intro g)
        go_returns
        exact ⟨by rw [hR2.out]; rfl, hX.trans g.grown⟩
    · have hk' : k = l.length := by omega
      have hge : (l.length : Int) ≤ k := by omega
      have hR2 := hRk.out
      rw [hk', List.drop_length] at hR2
      replace hR2 := hide hR2
      replace hk' := hide hk'
      go_wp2_with fail
      go_returns
      exact ⟨by rw [hR2.out]; rfl, hX⟩
theorem wrapN {q : Nat} (h : q < 9223372036854775808) : IntKind.i64.wrap (q : Int) = q := by
  simp [IntKind.wrap, IntKind.bits, IntKind.signed]; omega
theorem mayJ_of_take {l : List Jp} {k : Nat} (h : mayJ (l.take k) = false) : mayJ l = false := by
  cases hm : mayJ l
  · rfl
  · rw [← List.take_append_drop k l] at hm
    rw [mayJ_left hm] at h; cases h
theorem mayJ_bad {l : List Jp} {k : Nat} {x : Jp} (hx : l[k]? = some x) (h : okJ x = false) : mayJ l = false := by
  cases hm : mayJ l
  · rfl
  · rw [(mayJ_iff.1 hm).2.1 x (List.mem_of_getElem? hx)] at h; cases h
theorem mayJ_desc {l : List Jp} {q : Nat} {x y : Jp} (hy : l[q]? = some y) (hx : l[q + 1]? = some x) (h : x.1 ≤ y.1) : mayJ l = false := by
  cases hm : mayJ l
  · rfl
  · obtain ⟨h1, e1⟩ := List.getElem?_eq_some_iff.1 hy
    obtain ⟨h2, e2⟩ := List.getElem?_eq_some_iff.1 hx
    have := List.pairwise_iff_getElem.1 (mayJ_iff.1 hm).2.2 q (q + 1) h1 h2 (by omega)
    rw [e1, e2] at this; omega
theorem mayJ_more {l : List Jp} {k : Nat} {x : Jp} (hn : l.length ≤ 1024) (ih : mayJ (l.take k) = true) (hx : l[k]? = some x) (hok : okJ x = true) (hl : ∀ q y, k = q + 1 → l[q]? = some y → y.1 < x.1) : mayJ (l.take (k + 1)) = true := by
  obtain ⟨_, h2, h3⟩ := mayJ_iff.1 ih
  refine mayJ_iff.2 ⟨by rw [List.length_take]; omega, fun j hj => ?_, ?_⟩
  · rw [take_snoc hx] at hj
    rcases List.mem_append.1 hj with hj | hj
    · exact h2 j hj
    · simp only [List.mem_singleton] at hj; rw [hj]; exact hok
  · rw [take_snoc hx]
    refine List.pairwise_append.2 ⟨h3, by simp, fun a ha b hb => ?_⟩
    simp only [List.mem_singleton] at hb; subst hb
    rcases k with _ | q
    · simp at ha
    · have hq : q < l.length := by have := (List.getElem?_eq_some_iff.1 hx).1; omega
      have hy := hl q l[q] rfl (List.getElem?_eq_getElem hq)
      rw [take_snoc (List.getElem?_eq_getElem hq)] at ha h3
      rcases List.mem_append.1 ha with ha | ha
      · have := (List.pairwise_append.1 h3).2.2 a ha l[q] (by simp); omega
      · simp only [List.mem_singleton] at ha; rw [ha]; exact hy
set_option maxHeartbeats 8000000 in
set_option maxRecDepth 100000 in
theorem stepMay_c (l : List Jp) (v : Value) (w : World) (h : Jw w [] v l) : Calls Tryz.prog 34 #[v] w fun e w' => e = .returned (.bool (mayJ l)) ∧ Ext w w' := by
  obtain ⟨A, cap, rfl, hl, hm, hat⟩ := jw_form h
  unfold maxLen at hm
  replace hat := hide hat
  clear h
  obtain ⟨R, hR⟩ : ∃ R, R = mayJ l := ⟨_, rfl⟩
  rw [← hR]
  by_cases h8 : l.length ≤ 1024
  · have h8I : (l.length : Int) ≤ 1024 := by omega
    have h80 := hide h8
    replace hR := hide hR
    clear h8
    go_enter Tryz.func34, Tryz.ntmps34
    go_wp2_with fail
    go_loopg [10] l.length (fun gh i wr => ∃ (k : Nat), i = .int .i64 k ∧ k + gh = l.length ∧ Hid (mayJ (l.take k) = true) ∧ Ext w wr)
    case atStart => exact ⟨0, rfl, by omega, mayJ_nil, Ext.refl w⟩
    case round =>
      obtain ⟨k, rfl, hk, hpre, hX⟩ := hrel
      by_cases hlt : k < l.length
      · obtain ⟨x, hx⟩ : ∃ x, l[k]? = some x := ⟨_, List.getElem?_eq_getElem hlt⟩
        have hat' := hat
        obtain ⟨b, o, rfl, -, hb, c0, c1⟩ := hat.out k x hx
        have k0 := jcell_later hX c0
        have k1 := jcell_later hX c1
        have hbr : b < wr.heap.size := block_lt_of_cell k0
        haveI : In b wr := ⟨hbr⟩
        clear c0 c1
        obtain ⟨xp, xn⟩ := x
        have hi := hide (fun w => isInstant_c xp w)
        have ht := hide (fun w => isTooGreat_c (xp, xn) w)
        cases hok : okJ (xp, xn)
        · have hR2 : Hid (R = false) := by show _ = _; rw [hR.out]; exact mayJ_bad hx hok
          clear hx hpre
          cases hI : instB xp
          · rw [hI] at hi
            replace hI := hide hI
            go_wp2_with (first | (go_at_call 68; (with_reducible refine seq_gw (hi.out _) ?_); intro g) | (go_at_call 69; (with_reducible refine seq_gw' (ht.out _) ?_); intro g2))
            go_returns
            exact ⟨by rw [hR2.out]; rfl, (hX.alloc _).trans g.grown⟩
          · rw [hI] at hi
            by_cases h0 : xn = 0
            · subst h0
              replace hI := hide hI
              go_wp2_with (first | (go_at_call 68; (with_reducible refine seq_gw (hi.out _) ?_); intro g) | (go_at_call 69; (with_reducible refine seq_gw' (ht.out _) ?_); intro g2))
              go_returns
              exact ⟨by rw [hR2.out]; rfl, (hX.alloc _).trans g.grown⟩
            · have hz : (xn == 0) = false := by simp [h0]
              have hT : tooJ (xp, xn) = true := by
                cases hT : tooJ (xp, xn)
                · exfalso
                  have h1 := inst_yes hI
                  unfold tooJ at hT; rw [decide_eq_false_iff_not] at hT
                  unfold okJ at hok; rw [decide_eq_false_iff_not] at hok
                  simp only at hT hok; omega
                · rfl
              rw [hT] at ht
              replace hT := hide hT
              replace hI := hide hI
              replace hok := hide hok
              clear h0
              go_wp2_with (first | (go_at_call 68; (with_reducible refine seq_gw (hi.out _) ?_); intro g) | (go_at_call 69; (with_reducible refine seq_gw' (ht.out _) ?_); intro g2))
              go_returns
              exact ⟨by rw [hR2.out]; rfl, (hX.alloc _).trans g2.grown⟩
        · obtain ⟨ok1, ok2, ok3, ok4, ok5⟩ := okJ_iff.1 hok
          simp only at ok1 ok2 ok3 ok4 ok5
          have hI : instB xp = true := by unfold instB; rw [decide_eq_true_iff]; omega
          have hT : tooJ (xp, xn) = false := by unfold tooJ; rw [decide_eq_false_iff_not]; simp only; omega
          have hz : (xn == 0) = false := by simp; omega
          rw [hI] at hi
          rw [hT] at ht
          replace hI := hide hI
          replace hT := hide hT
          clear ok1 ok2 ok3 ok4 ok5
          rcases k with _ | q
          · have hnext : Hid (mayJ (l.take (0 + 1)) = true) := mayJ_more h80.out hpre.out hx hok (fun q y e => by cases e)
            clear hx hpre hat
            replace hok := hide hok
            simp only [Nat.zero_mul, Nat.add_zero] at k0 k1
            go_wp2_with (first | (go_at_call 68; (with_reducible refine seq_gw (hi.out _) ?_); intro g) | (go_at_call 69; (with_reducible refine seq_gw' (ht.out _) ?_); intro g2))
            go_quiet (fail)
            go_wp2_with fail
            go_roundg (l.length - 1)
            case measure => omega
            case rel => exact ⟨0 + 1, by go_num, by omega, hnext, ((hX.alloc _).trans g2.grown).drewN _⟩
          · have hq : q < l.length := by omega
            obtain ⟨y, hy⟩ : ∃ y, l[q]? = some y := ⟨_, List.getElem?_eq_getElem hq⟩
            obtain ⟨b2, o2, e2, -, hb2, c2, -⟩ := hat.out q y hy
            obtain ⟨rfl, rfl⟩ : b = b2 ∧ o = o2 := by simpa using e2
            have k2 := jcell_later hX c2
            obtain ⟨yp, yn⟩ := y
            have hqI : (q : Int) < l.length := by omega
            have hwq : IntKind.i64.wrap (q : Int) = q := wrapN (by omega)
            clear e2 hb2 c2
            by_cases hle : xp ≤ yp
            · have hR2 : Hid (R = false) := by show _ = _; rw [hR.out]; exact mayJ_desc hy hx hle
              have dle : decide (xp ≤ yp) = true := by rw [decide_eq_true_iff]; exact hle
              clear hx hy hpre hat
              replace hok := hide hok
              go_wp2_with (first | (go_at_call 68; (with_reducible refine seq_gw (hi.out _) ?_); intro g) | (go_at_call 69; (with_reducible refine seq_gw' (ht.out _) ?_); intro g2))
              go_quiet (fail)
              go_wp2_with fail
              go_returns
              exact ⟨by rw [hR2.out]; rfl, ((hX.alloc _).trans g2.grown).drewN _⟩
            · have hnext : Hid (mayJ (l.take (q + 1 + 1)) = true) := mayJ_more h80.out hpre.out hx hok (fun q' y' e hy' => by
                obtain rfl : q = q' := by omega
                rw [hy] at hy'; cases hy'; simp only; omega)
              have dle : decide (xp ≤ yp) = false := by rw [decide_eq_false_iff_not]; exact hle
              clear hx hy hpre hat hle
              replace hok := hide hok
              go_wp2_with (first | (go_at_call 68; (with_reducible refine seq_gw (hi.out _) ?_); intro g) | (go_at_call 69; (with_reducible refine seq_gw' (ht.out _) ?_); intro g2))
              go_quiet (fail)
              clear hwq
              go_wp2_with fail
              go_roundg (l.length - (q + 1 + 1))
              case measure => omega
              case rel => exact ⟨q + 1 + 1, by go_num, by omega, hnext, ((hX.alloc _).trans g2.grown).drewN _⟩
      · have hk' : k = l.length := by omega
        have hge : (l.length : Int) ≤ k := by omega
        have hR2 : Hid (R = true) := by
          show _ = _
          have := hpre.out
          rw [hk', List.take_length] at this
          rw [hR.out]; exact this
        replace hk' := hide hk'
        clear hpre
        go_wp2_with fail
        go_returns
        exact ⟨by rw [hR2.out]; rfl, hX⟩
  · have e : R = false := by rw [hR]; unfold mayJ; rw [decide_eq_false h8, Bool.false_and]
    have h8' : (1024 : Int) < l.length := by omega
    subst e
    clear h8 hR
    go_enter Tryz.func34, Tryz.ntmps34
    go_wp2_with fail
    go_returns
    exact ⟨rfl, Ext.refl w⟩
set_option maxHeartbeats 8000000 in
set_option maxRecDepth 100000 in
theorem refStepMay_c (l : List Jp) (v : Value) (w : World) (h : Jw w [] v l) : Calls Tryz.prog 38 #[v] w fun e w' => e = .returned (.bool (mayJ l)) ∧ Ext w w' := by
  obtain ⟨A, cap, rfl, hl, hm, hat⟩ := jw_form h
  unfold maxLen at hm
  replace hat := hide hat
  clear h
  obtain ⟨R, hR⟩ : ∃ R, R = mayJ l := ⟨_, rfl⟩
  rw [← hR]
  by_cases h8 : l.length ≤ 1024
  · have h8I : (l.length : Int) ≤ 1024 := by omega
    have h80 := hide h8
    replace hR := hide hR
    clear h8
    go_enter Tryz.func38, Tryz.ntmps38
    go_wp2_with fail
    go_loopg [3] l.length (fun gh i wr => ∃ (k : Nat), i = .int .i64 k ∧ k + gh = l.length ∧ Hid (mayJ (l.take k) = true) ∧ Ext w wr)
    case atStart => exact ⟨0, rfl, by omega, mayJ_nil, Ext.refl w⟩
    case round =>
      obtain ⟨k, rfl, hk, hpre, hX⟩ := hrel
      by_cases hlt : k < l.length
      · obtain ⟨x, hx⟩ : ∃ x, l[k]? = some x := ⟨_, List.getElem?_eq_getElem hlt⟩
        have hat' := hat
        obtain ⟨b, o, rfl, -, hb, c0, c1⟩ := hat.out k x hx
        have k0 := jcell_later hX c0
        have k1 := jcell_later hX c1
        have hbr : b < wr.heap.size := block_lt_of_cell k0
        haveI : In b wr := ⟨hbr⟩
        clear c0 c1
        obtain ⟨xp, xn⟩ := x
        cases hok : okJ (xp, xn)
        · have hR2 : Hid (R = false) := by show _ = _; rw [hR.out]; exact mayJ_bad hx hok
          clear hx hpre
          by_cases h1 : xp < -1
          · go_wp2_with fail
            go_returns
            exact ⟨by rw [hR2.out]; rfl, hX⟩
          · have d1 : decide (xp < -1) = false := by rw [decide_eq_false_iff_not]; exact h1
            by_cases h2 : 1125899906842624 ≤ xp
            · replace h1 := hide h1
              go_wp2_with fail
              go_returns
              exact ⟨by rw [hR2.out]; rfl, hX⟩
            · have d2 : decide (1125899906842624 ≤ xp) = false := by rw [decide_eq_false_iff_not]; exact h2
              by_cases h3 : xn = 0
              · subst h3
                replace h1 := hide h1
                replace h2 := hide h2
                replace hok := hide hok
                go_wp2_with fail
                go_returns
                exact ⟨by rw [hR2.out]; rfl, hX⟩
              · have d3 : (xn == 0) = false := by simp [h3]
                by_cases h4 : 1048576 < xn
                · replace h1 := hide h1
                  replace h2 := hide h2
                  replace h3 := hide h3
                  replace hok := hide hok
                  go_wp2_with fail
                  go_returns
                  exact ⟨by rw [hR2.out]; rfl, hX⟩
                · have d4 : decide (1048576 < xn) = false := by rw [decide_eq_false_iff_not]; exact h4
                  have h5 : xn < -1048576 := by
                    unfold okJ at hok; rw [decide_eq_false_iff_not] at hok; simp only at hok; omega
                  replace h1 := hide h1
                  replace h2 := hide h2
                  replace h3 := hide h3
                  replace h4 := hide h4
                  replace hok := hide hok
                  go_wp2_with fail
                  go_returns
                  exact ⟨by rw [hR2.out]; rfl, hX⟩
        · obtain ⟨ok1, ok2, ok3, ok4, ok5⟩ := okJ_iff.1 hok
          simp only at ok1 ok2 ok3 ok4 ok5
          have d1 : decide (xp < -1) = false := by rw [decide_eq_false_iff_not]; omega
          have d2 : decide (1125899906842624 ≤ xp) = false := by rw [decide_eq_false_iff_not]; omega
          have d3 : (xn == 0) = false := by simp; omega
          have d4 : decide (1048576 < xn) = false := by rw [decide_eq_false_iff_not]; omega
          have d5 : decide (xn < -1048576) = false := by rw [decide_eq_false_iff_not]; omega
          clear ok1 ok2 ok3 ok4 ok5
          rcases k with _ | q
          · have hnext : Hid (mayJ (l.take (0 + 1)) = true) := mayJ_more h80.out hpre.out hx hok (fun q y e => by cases e)
            clear hx hpre hat
            replace hok := hide hok
            simp only [Nat.zero_mul, Nat.add_zero] at k0 k1
            go_wp2_with fail
            go_quiet (fail)
            go_wp2_with fail
            go_roundg (l.length - 1)
            case measure => omega
            case rel => exact ⟨0 + 1, by go_num, by omega, hnext, hX.drewN _⟩
          · have hq : q < l.length := by omega
            obtain ⟨y, hy⟩ : ∃ y, l[q]? = some y := ⟨_, List.getElem?_eq_getElem hq⟩
            obtain ⟨b2, o2, e2, -, hb2, c2, -⟩ := hat.out q y hy
            obtain ⟨rfl, rfl⟩ : b = b2 ∧ o = o2 := by simpa using e2
            have k2 := jcell_later hX c2
            obtain ⟨yp, yn⟩ := y
            have hqI : (q : Int) < l.length := by omega
            have hwq : IntKind.i64.wrap (q : Int) = q := wrapN (by omega)
            clear e2 hb2 c2
            by_cases hle : xp ≤ yp
            · have hR2 : Hid (R = false) := by show _ = _; rw [hR.out]; exact mayJ_desc hy hx hle
              have dle : decide (xp ≤ yp) = true := by rw [decide_eq_true_iff]; exact hle
              clear hx hy hpre hat
              replace hok := hide hok
              go_wp2_with fail
              go_quiet (fail)
              go_wp2_with fail
              go_returns
              exact ⟨by rw [hR2.out]; rfl, hX.drewN _⟩
            · have hnext : Hid (mayJ (l.take (q + 1 + 1)) = true) := mayJ_more h80.out hpre.out hx hok (fun q' y' e hy' => by
                obtain rfl : q = q' := by omega
                rw [hy] at hy'; cases hy'; simp only; omega)
              have dle : decide (xp ≤ yp) = false := by rw [decide_eq_false_iff_not]; exact hle
              clear hx hy hpre hat hle
              replace hok := hide hok
              go_wp2_with fail
              go_quiet (fail)
              clear hwq
              go_wp2_with fail
              go_roundg (l.length - (q + 1 + 1))
              case measure => omega
              case rel => exact ⟨q + 1 + 1, by go_num, by omega, hnext, hX.drewN _⟩
      · have hk' : k = l.length := by omega
        have hge : (l.length : Int) ≤ k := by omega
        have hR2 : Hid (R = true) := by
          show _ = _
          have := hpre.out
          rw [hk', List.take_length] at this
          rw [hR.out]; exact this
        replace hk' := hide hk'
        clear hpre
        go_wp2_with fail
        go_returns
        exact ⟨by rw [hR2.out]; rfl, hX⟩
  · have e : R = false := by rw [hR]; unfold mayJ; rw [decide_eq_false h8, Bool.false_and]
    have h8' : (1024 : Int) < l.length := by omega
    subst e
    clear h8 hR
    go_enter Tryz.func38, Tryz.ntmps38
    go_wp2_with fail
    go_returns
    exact ⟨rfl, Ext.refl w⟩
set_option maxHeartbeats 1000000 in
set_option maxRecDepth 100000 in
theorem jmpClone_c (l : List Jp) (v : Value) (w : World) (h : Jw w [] v l) (hz : l.length * 16 ≤ 140737488351232) : Calls Tryz.prog 97 #[v] w fun e w' => ∃ v', e = .returned v' ∧ OwnJ w' w.heap.size v' l ∧ Ext w w' := by
  obtain ⟨A, cap, rfl, hl, hm, -⟩ := jw_form h
  have hq := fun w => Lib.run_eql_slice_nil (P := Tryz.prog) w 22 61 A l.length cap 0 0 Tryz.underlying22
  cases A with
  | none =>
    have hl0 : l = [] := by
      obtain ⟨A', cap', e, _, _, h3, h4⟩ := h
      rcases h4 with h4 | ⟨b, o, rfl, _⟩
      · have := congrArg List.length h4; rw [ps_length] at this; exact List.eq_nil_of_length_eq_zero (by simp at this; omega)
      · cases e
    subst hl0
    clear h hq
    have hq0 := fun w => Lib.run_eql_slice_nil (P := Tryz.prog) w 22 61 none 0 cap 0 0 Tryz.underlying22
    show Calls Tryz.prog 97 #[.slice none 0 cap] w fun e w' => ∃ v', e = .returned v' ∧ OwnJ w' w.heap.size v' [] ∧ Ext w w'
    go_enter Tryz.func97, Tryz.ntmps97
    go_wp2_with fail
    go_returns
    exact ⟨_, rfl, World.ownsRow_nil _ _ _ _, Ext.refl w⟩
  | some a =>
    have hlit := hide (World.ownsRow_lit (base := w.heap.size) (e := 61) (size := 2) w #[] 0 (Nat.le_refl _) (by decide) rfl)
    have hv := hide h
    clear h
    go_enter Tryz.func97, Tryz.ntmps97
    go_wp2_with (at_builtin; (refine wpl_app tJmp rfl (.tmp 5) (.tmp 6) rfl rfl hlit.out rfl (src_sl Tryz.underlying22 (Sl.ext hv.out ((Ext.refl w).alloc _)) (ps_one _) (by omega)) (by unfold maxLen; omega) (by omega) (by simp) ?_; intro v1 w1 ho1 hg1 _))
    go_returns
    have ho2 : OwnJ w1 w.heap.size v1 l := by have := own_appJ (l := []) ho1; simpa using this
    exact ⟨_, rfl, ho2, ext_grown ((Ext.refl w).alloc _) hg1 (fun k hk => (hlit.out.lt k hk).1)⟩
set_option maxHeartbeats 1000000 in
theorem unlessFull_c (l : List Jp) (v : Value) (B : Nat) (w : World) (h : OwnJ w B v l) : Calls Tryz.prog 98 #[v] w fun e w' => ∃ v', e = .returned (.tuple #[v', .int .i64 (full l)]) ∧ OwnJ w' B v' (kept l) ∧ Ext w w' := by
  have hm := hide (stepMay_c l v w (own_jw (S := []) h (by simp)))
  have ho := hide h
  obtain ⟨A, cap, rfl⟩ := own_form h
  unfold full kept
  clear h
  cases hb : mayJ l
  · rw [hb] at hm
    replace hb := hide hb
    rw [if_neg (by decide), if_neg (by decide)]
    go_enter Tryz.func98, Tryz.ntmps98
    go_wp2_with (go_at_call 34; (with_reducible refine seq_gw hm.out ?_); intro g)
    go_returns
    exact ⟨_, rfl, World.ownsRow_nil _ _ _ _, g.grown⟩
  · rw [hb] at hm
    replace hb := hide hb
    rw [if_pos rfl, if_pos rfl]
    go_enter Tryz.func98, Tryz.ntmps98
    go_wp2_with (go_at_call 34; (with_reducible refine seq_gw hm.out ?_); intro g)
    go_returns
    exact ⟨_, rfl, own_ext ho.out g.grown, g.grown⟩
end Go.Proofs.YtgniebjigphcgaaGreat
set_option linter.unusedVariables false
set_option linter.unusedSimpArgs false
namespace Go.Proofs.YtgniebjigphcgaaGreat
open Go.RowKit
attribute [local go_sem] GW.cell GW.frozen In.eq_true In.le_true In.ne In.ne' In.ne_add In.ne_add' In.lt_add Upto.le_true Upto.le_add Upto.lt_add
theorem jv_small {l : List Jp} (hb : ∀ j ∈ l, -1048576 ≤ j.2 ∧ j.2 ≤ 1048576) (hn : l.length ≤ 4096) (k : Nat) (t : Int) : -4294967296 ≤ jv (l.take k) t ∧ jv (l.take k) t ≤ 4294967296 := by
  have h1 := jv_bound (K := 1048576) (by omega) (fun j hj => hb j (List.mem_of_mem_take hj)) t (f := l.take k)
  have h2 : (l.take k).length ≤ 4096 := by rw [List.length_take]; omega
  omega
theorem js_small {l : List Jp} (hb : ∀ j ∈ l, -1048576 ≤ j.2 ∧ j.2 ≤ 1048576) (hn : l.length ≤ 4096) (k : Nat) : -4294967296 ≤ js (l.take k) ∧ js (l.take k) ≤ 4294967296 := by
  have h1 := js_bound (K := 1048576) (by omega) (fun j hj => hb j (List.mem_of_mem_take hj)) (f := l.take k)
  have h2 : (l.take k).length ≤ 4096 := by rw [List.length_take]; omega
  omega
theorem jv_next {l : List Jp} {k : Nat} {x : Jp} (hx : l[k]? = some x) (t : Int) : jv (l.take (k + 1)) t = if x.1 ≤ t then jv (l.take k) t + x.2 else jv (l.take k) t := by
  rw [take_snoc hx, jv_snoc]; split <;> omega
set_option maxHeartbeats 4000000 in
set_option maxRecDepth 100000 in
theorem refValue_c (l : List Jp) (hb : ∀ j ∈ l, -1048576 ≤ j.2 ∧ j.2 ≤ 1048576) (hn : l.length ≤ 4096) (t : Int) (v : Value) (w : World) (h : Jw w [] v l) : Calls Tryz.prog 61 #[v, .int .i64 t] w fun e w' => e = .returned (.int .i64 (jv l t)) ∧ Ext w w' := by
  obtain ⟨A, cap, rfl, hl, hm, hat⟩ := jw_form h
  unfold maxLen at hm
  replace hat := hide hat
  clear h
  obtain ⟨R, hR⟩ : ∃ R, R = jv l t := ⟨_, rfl⟩
  rw [← hR]
  replace hR := hide hR
  have hnI : (l.length : Int) ≤ 4096 := by omega
  replace hn := hide hn
  replace hb := hide hb
  go_enter Tryz.func61, Tryz.ntmps61
  go_wp2_with fail
  go_loopg [5, 6] l.length (fun gh s i wr => ∃ (k : Nat) (z : Int), i = .int .i64 k ∧ s = .int .i64 z ∧ k + gh = l.length ∧ Hid (z = jv (l.take k) t) ∧ Ext w wr)
  case atStart => exact ⟨0, 0, rfl, rfl, by omega, rfl, Ext.refl w⟩
  case round =>
    obtain ⟨k, z, rfl, rfl, hk, hz, hX⟩ := hrel
    by_cases hlt : k < l.length
    · obtain ⟨x, hx⟩ : ∃ x, l[k]? = some x := ⟨_, List.getElem?_eq_getElem hlt⟩
      obtain ⟨b, o, rfl, -, hbl, c0, c1⟩ := hat.out k x hx
      have k0 := jcell_later hX c0
      have k1 := jcell_later hX c1
      have hbr : b < wr.heap.size := block_lt_of_cell k0
      obtain ⟨z1, z2⟩ := (show -4294967296 ≤ z ∧ z ≤ 4294967296 by have := hz.out; rw [this]; exact jv_small hb.out hn.out k t)
      obtain ⟨n1, n2⟩ := hb.out x (List.mem_of_getElem? hx)
      have hnx := jv_next hx t
      rw [← hz.out] at hnx
      clear c0 c1 hx hz
      obtain ⟨xp, xn⟩ := x
      simp only at n1 n2 hnx k0 k1
      by_cases hle : xp ≤ t
      · rw [if_pos hle] at hnx
        replace hnx := hide hnx
        go_wp2_with fail
        go_roundg (l.length - (k + 1))
        case measure => omega
        case rel => exact ⟨k + 1, z + xn, by go_num, by go_num, by omega, hnx.out.symm, hX⟩
      · have d : decide (xp ≤ t) = false := by rw [decide_eq_false_iff_not]; exact hle
        rw [if_neg hle] at hnx
        replace hnx := hide hnx
        clear hle
        go_wp2_with fail
        go_roundg (l.length - (k + 1))
        case measure => omega
        case rel => exact ⟨k + 1, z, by go_num, rfl, by omega, hnx.out.symm, hX⟩
    · have hk' : k = l.length := by omega
      have hge : (l.length : Int) ≤ k := by omega
      have hR2 : Hid (R = z) := by show _ = _; have := hz.out; rw [hk', List.take_length] at this; rw [hR.out]; exact this.symm
      replace hk' := hide hk'
      clear hz hR
      go_wp2_with fail
      go_returns
      exact ⟨by rw [hR2.out]; rfl, hX⟩
set_option maxHeartbeats 4000000 in
theorem refStepAt_c (l : List Jp) (t : Int) (v : Value) (w : World) (h : Jw w [] v l) : Calls Tryz.prog 26 #[v, .int .i64 t] w fun e w' => e = .returned (.int .i64 (atV l t)) ∧ Ext w w' := by
  have hm := hide (refStepMay_c l v w h)
  have hv := hide (fun (hb : ∀ j ∈ l, -1048576 ≤ j.2 ∧ j.2 ≤ 1048576) (hn : l.length ≤ 4096) w' (hX : Ext w w') => refValue_c l hb hn t v w' (Sl.ext h hX))
  unfold atV
  clear h
  cases hb : mayJ l
  · rw [hb] at hm
    rw [if_neg (by decide)]
    replace hb := hide hb
    go_enter Tryz.func26, Tryz.ntmps26
    go_wp2_with (go_at_call 38; (with_reducible refine seq_gw hm.out ?_); intro g)
    go_returns
    exact ⟨rfl, g.grown⟩
  · rw [hb] at hm
    rw [if_pos rfl]
    have hv' := hide (hv.out (mayJ_net hb) (by have := mayJ_len hb; omega))
    generalize jv l t = z at *
    replace hb := hide hb
    clear hv
    go_enter Tryz.func26, Tryz.ntmps26
    go_wp2_with (first | (go_at_call 38; (with_reducible refine seq_gw hm.out ?_); intro g) | (go_at_call 61; (with_reducible refine seq_gw' (hv'.out _ g.grown) ?_); intro g2))
    go_returns
    exact ⟨rfl, g2.grown⟩
set_option maxHeartbeats 4000000 in
set_option maxRecDepth 100000 in
theorem stepAt_c (l : List Jp) (t : Int) (v : Value) (w : World) (h : Jw w [] v l) : Calls Tryz.prog 70 #[v, .int .i64 t] w fun e w' => e = .returned (.int .i64 (atV l t)) ∧ Ext w w' := by
  have hm := hide (stepMay_c l v w h)
  obtain ⟨A, cap, rfl, hl, hmc, hat⟩ := jw_form h
  unfold maxLen at hmc
  replace hat := hide hat
  unfold atV
  clear h
  cases hb : mayJ l
  · rw [hb] at hm
    rw [if_neg (by decide)]
    replace hb := hide hb
    clear hat
    go_enter Tryz.func70, Tryz.ntmps70
    go_wp2_with (go_at_call 34; (with_reducible refine seq_gw hm.out ?_); intro g)
    go_returns
    exact ⟨rfl, g.grown⟩
  · rw [hb] at hm
    rw [if_pos rfl]
    have hnet := hide (mayJ_net hb)
    have hn := hide (show l.length ≤ 4096 by have := mayJ_len hb; omega)
    have hnI : (l.length : Int) ≤ 4096 := by have := hn.out; omega
    obtain ⟨R, hR⟩ : ∃ R, R = jv l t := ⟨_, rfl⟩
    rw [← hR]
    replace hR := hide hR
    replace hb := hide hb
    go_enter Tryz.func70, Tryz.ntmps70
    go_wp2_with (go_at_call 34; (with_reducible refine seq_gw hm.out ?_); intro g)
    go_loopg [5, 13] l.length (fun gh s i wr => ∃ (k : Nat) (z : Int), i = .int .i64 k ∧ s = .int .i64 z ∧ k + gh = l.length ∧ Hid (z = jv (l.take k) t) ∧ Ext w wr)
    case atStart => exact ⟨0, 0, rfl, rfl, by omega, rfl, g.grown⟩
    case round =>
      obtain ⟨k, z, rfl, rfl, hk, hz, hX⟩ := hrel
      by_cases hlt : k < l.length
      · obtain ⟨x, hx⟩ : ∃ x, l[k]? = some x := ⟨_, List.getElem?_eq_getElem hlt⟩
        obtain ⟨b, o, rfl, -, hbl, c0, c1⟩ := hat.out k x hx
        have k0 := jcell_later hX c0
        have k1 := jcell_later hX c1
        have hbr : b < wr.heap.size := block_lt_of_cell k0
        obtain ⟨z1, z2⟩ := (show -4294967296 ≤ z ∧ z ≤ 4294967296 by have := hz.out; rw [this]; exact jv_small hnet.out hn.out k t)
        obtain ⟨n1, n2⟩ := hnet.out x (List.mem_of_getElem? hx)
        have hnx := jv_next hx t
        rw [← hz.out] at hnx
        clear c0 c1 hx hz
        obtain ⟨xp, xn⟩ := x
        simp only at n1 n2 hnx k0 k1
        by_cases hle : xp ≤ t
        · rw [if_pos hle] at hnx
          replace hnx := hide hnx
          go_wp2_with fail
          go_roundg (l.length - (k + 1))
          case measure => omega
          case rel => exact ⟨k + 1, z + xn, by go_num, by go_num, by omega, hnx.out.symm, hX.alloc _⟩
        · have d : decide (xp ≤ t) = false := by rw [decide_eq_false_iff_not]; exact hle
          rw [if_neg hle] at hnx
          replace hnx := hide hnx
          clear hle
          go_wp2_with fail
          go_roundg (l.length - (k + 1))
          case measure => omega
          case rel => exact ⟨k + 1, z, by go_num, rfl, by omega, hnx.out.symm, hX.alloc _⟩
      · have hk' : k = l.length := by omega
        have hge : (l.length : Int) ≤ k := by omega
        have hR2 : Hid (R = z) := by show _ = _; have := hz.out; rw [hk', List.take_length] at this; rw [hR.out]; exact this.symm
        replace hk' := hide hk'
        clear hz hR
        go_wp2_with fail
        go_returns
        exact ⟨by rw [hR2.out]; rfl, hX⟩
theorem atV_of {l : List Jp} (h : mayJ l = true) (t : Int) : atV l t = jv l t := by unfold atV; rw [if_pos h]
theorem js_here {l : List Jp} (h : mayJ l = true) {k : Nat} {x : Jp} (hx : l[k]? = some x) : js (l.take (k + 1)) = jv l x.1 := by
  rw [take_snoc hx]
  have e : l = l.take k ++ x :: l.drop (k + 1) := by rw [← jdrop_cons hx, List.take_append_drop]
  have := js_at (f1 := l.take k) (f2 := l.drop (k + 1)) (j := x) (by rw [← e]; exact (mayJ_iff.1 h).2.2)
  rw [← e] at this
  exact this
theorem js_next {l : List Jp} {k : Nat} {x : Jp} (hx : l[k]? = some x) : js (l.take (k + 1)) = js (l.take k) + x.2 := by rw [take_snoc hx, js_snoc]
theorem le_next {l : List Jp} {k : Nat} {x : Jp} (m : Int) (hx : l[k]? = some x) : leF l m (l.take (k + 1)) = min (leF l m (l.take k)) (jv l x.1) := by rw [take_snoc hx, leF_snoc]
theorem leF_range {l : List Jp} (h : mayJ l = true) (g : List Jp) : -1073741824 ≤ leF l (jv l (-1)) g ∧ leF l (jv l (-1)) g ≤ 1073741824 := by
  have h0 := mayJ_jv h
  suffices H : ∀ (g : List Jp) (m : Int), -1073741824 ≤ m → m ≤ 1073741824 → -1073741824 ≤ leF l m g ∧ leF l m g ≤ 1073741824 from H g _ (h0 _).1 (h0 _).2
  intro g
  induction g with
  | nil => intro m h1 h2; exact ⟨h1, h2⟩
  | cons a r ih => intro m h1 h2; have := h0 a.1; exact ih (min m (jv l a.1)) (by omega) (by omega)
set_option maxHeartbeats 4000000 in
set_option maxRecDepth 100000 in
theorem stepLeast_c (l : List Jp) (v : Value) (w : World) (h : Jw w [] v l) : Calls Tryz.prog 35 #[v] w fun e w' => e = .returned (.int .i64 (leV l)) ∧ Ext w w' := by
  have hm := hide (stepMay_c l v w h)
  have ha := hide (fun w' (hX : Ext w w') => stepAt_c l (-1) v w' (Sl.ext h hX))
  obtain ⟨A, cap, rfl, hl, hmc, hat⟩ := jw_form h
  unfold maxLen at hmc
  replace hat := hide hat
  unfold leV
  clear h
  cases hb : mayJ l
  · rw [hb] at hm
    rw [if_neg (by decide)]
    replace hb := hide hb
    clear hat ha
    go_enter Tryz.func35, Tryz.ntmps35
    go_wp2_with (go_at_call 34; (with_reducible refine seq_gw hm.out ?_); intro g)
    go_returns
    exact ⟨rfl, g.grown⟩
  · rw [hb] at hm
    rw [if_pos rfl]
    rw [atV_of hb] at ha
    have hnet := hide (mayJ_net hb)
    have hn := hide (show l.length ≤ 4096 by have := mayJ_len hb; omega)
    have hnI : (l.length : Int) ≤ 4096 := by have := hn.out; omega
    obtain ⟨m0, hm0⟩ : ∃ m0, m0 = jv l (-1) := ⟨_, rfl⟩
    rw [← hm0] at ha ⊢
    obtain ⟨R, hR⟩ : ∃ R, R = leF l m0 l := ⟨_, rfl⟩
    rw [← hR]
    replace hR := hide hR
    replace hb := hide hb
    replace hm0 := hide hm0
    go_enter Tryz.func35, Tryz.ntmps35
    go_wp2_with (first | (go_at_call 34; (with_reducible refine seq_gw hm.out ?_); intro g) | (go_at_call 70; (with_reducible refine seq_gw' (ha.out _ g.grown) ?_); intro g2))
    go_loopg [3, 4, 14] l.length (fun gh m s i wr => ∃ (k : Nat) (y z : Int), i = .int .i64 k ∧ s = .int .i64 z ∧ m = .int .i64 y ∧ k + gh = l.length ∧ Hid (z = js (l.take k)) ∧ Hid (y = leF l m0 (l.take k)) ∧ Ext w wr)
    case atStart => exact ⟨0, m0, 0, rfl, rfl, rfl, by omega, rfl, rfl, g2.grown⟩
    case round =>
      clear ha
      obtain ⟨k, y, z, rfl, rfl, rfl, hk, hz, hy, hX⟩ := hrel
      by_cases hlt : k < l.length
      · obtain ⟨x, hx⟩ : ∃ x, l[k]? = some x := ⟨_, List.getElem?_eq_getElem hlt⟩
        obtain ⟨b, o, rfl, -, hbl, c0, c1⟩ := hat.out k x hx
        have k0 := jcell_later hX c0
        have k1 := jcell_later hX c1
        have hbr : b < wr.heap.size := block_lt_of_cell k0
        obtain ⟨z1, z2⟩ := (show -4294967296 ≤ z ∧ z ≤ 4294967296 by have := hz.out; rw [this]; exact js_small hnet.out hn.out k)
        obtain ⟨n1, n2⟩ := hnet.out x (List.mem_of_getElem? hx)
        have hnx := js_next hx
        rw [← hz.out] at hnx
        have hny := le_next m0 hx
        rw [← hy.out, ← js_here hb.out hx, hnx] at hny
        clear c0 c1 hx hz hy
        obtain ⟨xp, xn⟩ := x
        simp only at n1 n2 hnx hny k0 k1
        replace hnx := hide hnx
        by_cases hle : y ≤ z + xn
        · rw [Int.min_eq_left hle] at hny
          replace hny := hide hny
          have d1 : decide (z + xn < y) = false := by rw [decide_eq_false_iff_not]; omega
          go_wp2_with fail
          go_roundg (l.length - (k + 1))
          case measure => omega
          case rel => exact ⟨k + 1, y, z + xn, by go_num, by go_num, by simp [hle], by omega, hnx.out.symm, hny.out.symm, hX.alloc _⟩
        · have hle' : z + xn < y := by omega
          rw [Int.min_eq_right (by omega)] at hny
          replace hny := hide hny
          clear hle
          go_wp2_with fail
          go_roundg (l.length - (k + 1))
          case measure => omega
          case rel => exact ⟨k + 1, z + xn, z + xn, by go_num, by go_num, by simp [hle'], by omega, hnx.out.symm, hny.out.symm, hX.alloc _⟩
      · have hk' : k = l.length := by omega
        have hge : (l.length : Int) ≤ k := by omega
        have hR2 : Hid (R = y) := by show _ = _; have := hy.out; rw [hk', List.take_length] at this; rw [hR.out]; exact this.symm
        replace hk' := hide hk'
        clear hz hR hy
        go_wp2_with fail
        go_returns
        exact ⟨by rw [hR2.out]; rfl, hX⟩
set_option maxHeartbeats 4000000 in
set_option maxRecDepth 100000 in
theorem refStepLeast_c (l : List Jp) (v : Value) (w : World) (h : Jw w [] v l) : Calls Tryz.prog 39 #[v] w fun e w' => e = .returned (.int .i64 (leV l)) ∧ Ext w w' := by
  have hm := hide (refStepMay_c l v w h)
  have hv := hide (fun (hb : ∀ j ∈ l, -1048576 ≤ j.2 ∧ j.2 ≤ 1048576) (hn : l.length ≤ 4096) t w' (hX : Ext w w') => refValue_c l hb hn t v w' (Sl.ext h hX))
  obtain ⟨A, cap, rfl, hl, hmc, hat⟩ := jw_form h
  unfold maxLen at hmc
  replace hat := hide hat
  unfold leV
  clear h
  cases hb : mayJ l
  · rw [hb] at hm
    rw [if_neg (by decide)]
    replace hb := hide hb
    clear hat hv
    go_enter Tryz.func39, Tryz.ntmps39
    go_wp2_with (go_at_call 38; (with_reducible refine seq_gw hm.out ?_); intro g)
    go_returns
    exact ⟨rfl, g.grown⟩
  · rw [hb] at hm
    rw [if_pos rfl]
    have hv' := hide (hv.out (mayJ_net hb) (by have := mayJ_len hb; omega))
    have hn := hide (show l.length ≤ 4096 by have := mayJ_len hb; omega)
    have hnI : (l.length : Int) ≤ 4096 := by have := hn.out; omega
    obtain ⟨m0, hm0⟩ : ∃ m0, m0 = jv l (-1) := ⟨_, rfl⟩
    have hv1 := hide (hv'.out (-1))
    rw [← hm0] at hv1 ⊢
    obtain ⟨R, hR⟩ : ∃ R, R = leF l m0 l := ⟨_, rfl⟩
    rw [← hR]
    replace hR := hide hR
    replace hb := hide hb
    replace hm0 := hide hm0
    clear hv
    go_enter Tryz.func39, Tryz.ntmps39
    go_wp2_with (first | (go_at_call 38; (with_reducible refine seq_gw hm.out ?_); intro g) | (go_at_call 61; (with_reducible refine seq_gw' (hv1.out _ g.grown) ?_); intro g2))
    go_loopg [3, 4] l.length (fun gh m i wr => ∃ (k : Nat) (y : Int), i = .int .i64 k ∧ m = .int .i64 y ∧ k + gh = l.length ∧ Hid (y = leF l m0 (l.take k)) ∧ Ext w wr)
    case atStart => exact ⟨0, m0, rfl, rfl, by omega, rfl, g2.grown⟩
    case round =>
      clear hv1
      obtain ⟨k, y, rfl, rfl, hk, hy, hX⟩ := hrel
      by_cases hlt : k < l.length
      · obtain ⟨x, hx⟩ : ∃ x, l[k]? = some x := ⟨_, List.getElem?_eq_getElem hlt⟩
        obtain ⟨b, o, rfl, -, hbl, c0, c1⟩ := hat.out k x hx
        have k0 := jcell_later hX c0
        have hbr : b < wr.heap.size := block_lt_of_cell k0
        haveI : In b wr := ⟨hbr⟩
        have hny := le_next m0 hx
        rw [← hy.out] at hny
        clear c0 c1 hx hy
        obtain ⟨xp, xn⟩ := x
        simp only at hny k0
        have hv2 := hide (hv'.out xp)
        obtain ⟨z, hz⟩ : ∃ z, z = jv l xp := ⟨_, rfl⟩
        rw [← hz] at hny hv2
        clear hz
        by_cases hle : z < y
        · rw [Int.min_eq_right (by omega)] at hny
          replace hny := hide hny
          go_wp2_with (go_at_call 61; (with_reducible first | (refine seq_gw (hv2.out _ hX) ?_) | (refine seq_gw' (hv2.out _ (hX.trans g5.grown)) ?_)); intro g5)
          go_roundg (l.length - (k + 1))
          case measure => omega
          case rel => exact ⟨k + 1, z, by go_num, rfl, by omega, hny.out.symm, hX.trans g5.grown⟩
        · have d : decide (z < y) = false := by rw [decide_eq_false_iff_not]; exact hle
          rw [Int.min_eq_left (by omega)] at hny
          replace hny := hide hny
          clear hle
          go_wp2_with (go_at_call 61; (with_reducible refine seq_gw (hv2.out _ hX) ?_); intro g5)
          go_roundg (l.length - (k + 1))
          case measure => omega
          case rel => exact ⟨k + 1, y, by go_num, rfl, by omega, hny.out.symm, hX.trans g5.grown⟩
      · have hk' : k = l.length := by omega
        have hge : (l.length : Int) ≤ k := by omega
        have hR2 : Hid (R = y) := by show _ = _; have := hy.out; rw [hk', List.take_length] at this; rw [hR.out]; exact this.symm
        replace hk' := hide hk'
        clear hR hy
        go_wp2_with fail
        go_returns
        exact ⟨by rw [hR2.out]; rfl, hX⟩
end Go.Proofs.YtgniebjigphcgaaGreat
set_option linter.unusedVariables false
set_option linter.unusedSimpArgs false
namespace Go.Proofs.YtgniebjigphcgaaGreat
open Go.RowKit
attribute [local go_sem] GW.cell GW.frozen In.eq_true In.le_true In.ne In.ne' In.ne_add In.ne_add' In.lt_add Upto.le_true Upto.le_add Upto.lt_add
attribute [-go_sem] sliced
attribute [local go_sem] sliced_eq
theorem ps_take (l : List Jp) : ∀ n, (ps l).take (n * 2) = ps (l.take n) := by
  induction l with
  | nil => intro n; simp [ps]
  | cons p r ih =>
    intro n
    rcases n with _ | n
    · simp [ps]
    · rw [show (n + 1) * 2 = n * 2 + 1 + 1 by omega]
      simpa [ps] using ih n
theorem jw_drop {w : World} {S : List Nat} {A : Option Addr} {cap : Nat} {l : List Jp} (h : Jw w S (.slice A l.length cap) l) (k : Nat) (hk : k ≤ l.length) : Jw w S (.slice (cutA A k cap 2) (l.length - k) (cap - k)) (l.drop k) := by
  obtain ⟨_, c, e, h1, h2, h3, h4⟩ := id h
  simp only [Value.slice.injEq] at e
  obtain ⟨rfl, -, rfl⟩ := e
  have hc := h.cut k l.length cap hk (Nat.le_refl _) h1 (Nat.le_refl _)
  rw [sliced_eq, List.take_of_length_le (by rw [ps_length]; omega), ps_drop] at hc
  unfold Jw
  rw [List.length_drop]
  exact hc
theorem jw_take {w : World} {S : List Nat} {A : Option Addr} {cap : Nat} {l : List Jp} (h : Jw w S (.slice A l.length cap) l) (k : Nat) (hk : k ≤ l.length) : Jw w S (.slice (cutA A 0 cap 2) k cap) (l.take k) := by
  obtain ⟨_, c, e, h1, h2, h3, h4⟩ := id h
  simp only [Value.slice.injEq] at e
  obtain ⟨rfl, -, rfl⟩ := e
  have hl : (l.take k).length = k := by rw [List.length_take]; omega
  have hc := h.cut 0 k k (Nat.zero_le _) hk (Nat.le_refl _) (by omega)
  have hc := h.cut 0 k cap (Nat.zero_le _) hk (by omega) (Nat.le_refl _)
  rw [sliced_eq, Nat.zero_mul, List.drop_zero, ps_take] at hc
  unfold Jw
  rw [hl]
  exact hc
theorem src_jmpAt {P : Program} {tx e' : TypeId} (hk : P.underlying tx = some (.slice e')) (w : World) (B : Nat) (hB : B = w.heap.size) (x : Jp) (E : TypeId) : Src P 2 tx (.slice (some ⟨B, 0, none⟩) 1 1) 1 (ps [x]) (w.alloc (.cells #[.int .i64 x.1, .int .i64 x.2] E)) := by
  subst hB; exact src_jmp hk w x E
theorem cut_at {l : List Jp} {k : Nat} {t : Int} (hl : ∀ j ∈ l.take k, j.1 < t) (hx : ∀ x, l[k]? = some x → t ≤ x.1) : cutL l t = l.take k ∧ cutR l t = l.drop k := by
  unfold cutL cutR
  induction l generalizing k with
  | nil => simp
  | cons a r ih =>
    rcases k with _ | k
    · have h := hx a rfl
      rw [List.takeWhile_cons, List.dropWhile_cons, if_neg (by simp; omega), if_neg (by simp; omega)]
      exact ⟨rfl, rfl⟩
    · have h := hl a (by simp)
      obtain ⟨i1, i2⟩ := ih (k := k) (fun j hj => hl j (by simp [hj])) (fun x hx' => hx x (by simpa using hx'))
      rw [List.takeWhile_cons, List.dropWhile_cons, if_pos (by simpa using h), if_pos (by simpa using h), i1, i2]
      exact ⟨rfl, rfl⟩
set_option maxHeartbeats 4000000 in
set_option maxRecDepth 100000 in
theorem cut_c (l : List Jp) (hb : mayJ l = true) (t : Int) (v : Value) (w : World) (h : Jw w [] v l) : Calls Tryz.prog 96 #[v, .int .i64 t] w fun e w' => ∃ v1 v2, e = .returned (.tuple #[v1, v2, .int .i64 (js (cutL l t))]) ∧ (∀ W, Jw W [] v l → Jw W [] v1 (cutL l t) ∧ Jw W [] v2 (cutR l t)) ∧ Ext w w' := by
  obtain ⟨A, cap, rfl, hl, hm, hat⟩ := jw_form h
  unfold maxLen at hm
  replace hat := hide hat
  clear h
  have hnet := hide (mayJ_net hb)
  have hn := hide (show l.length ≤ 4096 by have := mayJ_len hb; omega)
  have hnI : (l.length : Int) ≤ 4096 := by have := hn.out; omega
  replace hb := hide hb
  go_enter Tryz.func96, Tryz.ntmps96
  go_wp2_with fail
  go_loopg [6, 7] l.length (fun gh s i wr => ∃ (k : Nat) (z : Int), i = .int .i64 k ∧ s = .int .i64 z ∧ k + gh = l.length ∧ Hid (z = js (l.take k)) ∧ Hid (∀ j ∈ l.take k, j.1 < t) ∧ Ext w wr)
  case atStart => exact ⟨0, 0, rfl, rfl, by omega, rfl, (by intro j hj; simp at hj), Ext.refl w⟩
  case round =>
    obtain ⟨k, z, rfl, rfl, hk, hz, hlo, hX⟩ := hrel
    by_cases hlt : k < l.length
    · obtain ⟨x, hx⟩ : ∃ x, l[k]? = some x := ⟨_, List.getElem?_eq_getElem hlt⟩
      obtain ⟨b, o, rfl, -, hbl, c0, c1⟩ := hat.out k x hx
      have k0 := jcell_later hX c0
      have k1 := jcell_later hX c1
      have hbr : b < wr.heap.size := block_lt_of_cell k0
      obtain ⟨z1, z2⟩ := (show -4294967296 ≤ z ∧ z ≤ 4294967296 by have := hz.out; rw [this]; exact js_small hnet.out hn.out k)
      obtain ⟨n1, n2⟩ := hnet.out x (List.mem_of_getElem? hx)
      by_cases hle : x.1 < t
      · have hnx := js_next hx
        rw [← hz.out] at hnx
        have hlo' : Hid (∀ j ∈ l.take (k + 1), j.1 < t) := by
          intro j hj
          rw [take_snoc hx] at hj
          rcases List.mem_append.1 hj with hj | hj
          · exact hlo.out j hj
          · simp only [List.mem_singleton] at hj; subst hj; exact hle
        clear c0 c1 hx hz hlo
        obtain ⟨xp, xn⟩ := x
        simp only at n1 n2 hnx k0 k1 hle
        replace hnx := hide hnx
        go_wp2_with fail
        go_roundg (l.length - (k + 1))
        case measure => omega
        case rel => exact ⟨k + 1, z + xn, by go_num, by go_num, by omega, hnx.out.symm, hlo', hX⟩
      · obtain ⟨q1, q2⟩ := cut_at hlo.out (fun y hy => by rw [hx] at hy; cases hy; omega)
        have e1 : Hid (js (cutL l t) = z) := by show _ = _; rw [q1, ← hz.out]
        have hq1 := hide q1
        have hq2 := hide q2
        have d : decide (x.1 < t) = false := by rw [decide_eq_false_iff_not]; exact hle
        have hkI : (k : Int) ≤ l.length := by omega
        have hkc : k ≤ cap := by omega
        clear c0 c1 hx hz hlo hle n1 n2 q1 q2
        obtain ⟨xp, xn⟩ := x
        simp only at k0 k1 d
        go_wp2_with fail
        go_quiet (fail)
        go_wp2_with fail
        go_returns
        rw [e1.out]
        refine ⟨_, _, rfl, fun W h => ?_, hX.drewN _⟩
        rw [hq1.out, hq2.out]
        exact ⟨jw_take h k (by omega), jw_drop h k (by omega)⟩
    · have hk' : k = l.length := by omega
      have hge : (l.length : Int) ≤ k := by omega
      obtain ⟨q1, q2⟩ := cut_at hlo.out (fun y hy => by rw [List.getElem?_eq_none (by omega)] at hy; cases hy)
      have e1 : Hid (js (cutL l t) = z) := by show _ = _; rw [q1, ← hz.out]
      have hq1 := hide q1
      have hq2 := hide q2
      have hkI : (k : Int) ≤ l.length := by omega
      have hkc : k ≤ cap := by omega
      replace hk' := hide hk'
      clear hz hlo q1 q2
      go_wp2_with fail
      go_quiet (fail)
      go_wp2_with fail
      go_returns
      rw [e1.out]
      refine ⟨_, _, rfl, fun W h => ?_, hX.drewN _⟩
      rw [hq1.out, hq2.out]
      exact ⟨jw_take h k (by omega), jw_drop h k (by omega)⟩
theorem ng_next {l : List Jp} {k : Nat} {x : Jp} (hx : l[k]? = some x) : ngL (l.take (k + 1)) = ngL (l.take k) ++ [(x.1, -x.2)] := by
  rw [take_snoc hx]; simp [ngL]
set_option maxHeartbeats 4000000 in
set_option maxRecDepth 100000 in
theorem stepAhead_c (l : List Jp) (t : Int) (v : Value) (w : World) (h : Jw w [] v l) : Calls Tryz.prog 67 #[v, .int .i64 t] w fun e w' => ∃ v', e = .returned (.tuple #[v', .int .i64 (ahE l t)]) ∧ OwnJ w' w.heap.size v' (ahR l t) ∧ Ext w w' := by
  have hm := hide (stepMay_c l v w h)
  obtain ⟨E, hE⟩ : ∃ E, E = ahE l t := ⟨_, rfl⟩
  obtain ⟨R, hR⟩ : ∃ R, R = ahR l t := ⟨_, rfl⟩
  rw [← hE, ← hR]
  cases hb : mayJ l
  · have e1 : E = 2 := by rw [hE]; unfold ahE; rw [hb]; rfl
    have e2 : R = [] := by rw [hR]; unfold ahR; rw [← hE, e1, if_neg (by decide)]
    subst e1
    subst e2
    rw [hb] at hm
    clear hb hE hR h
    go_enter Tryz.func67, Tryz.ntmps67
    go_wp2_with (go_at_call 34; (with_reducible refine seq_gw hm.out ?_); intro g)
    go_returns
    exact ⟨_, rfl, World.ownsRow_nil _ _ _ _, g.grown⟩
  · rw [hb] at hm
    have hEF : Hid (E = full (ahC l t)) := by show _ = _; rw [hE, ahead_code hb]; unfold ahE; rw [hb]; rfl
    have hRF : Hid (R = kept (ahC l t)) := by
      show _ = _
      rw [hR, ahead_code hb]; unfold ahR ahE; rw [hb]
      unfold full kept
      cases mayJ (ahL l t) <;> rfl
    have hcut := hide (fun w' (hX : Ext w w') => cut_c l hb t v w' (Sl.ext h hX))
    have lL : (cutL l t).length ≤ 1024 := by have := (List.takeWhile_sublist (fun j : Jp => decide (j.1 < t)) (l := l)).length_le; have := mayJ_len hb; unfold cutL; omega
    obtain ⟨z1, z2⟩ := (show -4294967296 ≤ js (cutL l t) ∧ js (cutL l t) ≤ 4294967296 by
      have h1 := js_bound (K := 1048576) (by omega) (f := cutL l t) (fun j hj => mayJ_net hb j ((List.takeWhile_sublist _).subset hj))
      omega)
    unfold ahC at hEF hRF
    generalize js (cutL l t) = z at *
    generalize cutL l t = cl at *
    generalize cutR l t = cr at *
    have hh := hide h
    replace hb := hide hb
    clear hE hR h
    obtain ⟨A, cap, rfl, -, -, -⟩ := jw_form hh.out
    by_cases hz : z = 0
    · subst hz
      rw [if_neg (by simp)] at hEF hRF
      go_enter Tryz.func67, Tryz.ntmps67
      go_wp2_with (first | (go_at_call 34; (with_reducible refine seq_gw hm.out ?_); intro g) | (go_at_call 96; refine (hcut.out _ g.grown).mono ?_; rintro ee w2 ⟨v1, v2, rfl, hv, hx2⟩; have hv1 := hide ((hv w2 (Sl.ext hh.out (g.grown.trans hx2))).1); clear hv) | (go_at_call 97; refine (jmpClone_c cl v1 w2 hv1.out (by omega)).mono ?_; rintro ee w3 ⟨v3, rfl, ho3, hx3⟩; have hX3 := hide (g.grown.trans (hx2.trans hx3)); have hsz := (g.grown.trans hx2).size; have huf := hide (unlessFull_c cl v3 w.heap.size w3 (own_base ho3 hsz)); clear hv1 ho3) | (go_at_call 98; refine huf.out.mono ?_; rintro ee w4 ⟨v4, rfl, ho4, hx4⟩))
      go_returns
      rw [hEF.out, hRF.out]
      exact ⟨_, rfl, ho4, hX3.out.trans hx4⟩
    · have hzb : (z != 0) = true := by simp [hz]
      by_cases htF : t < 1125899906842624
      · rw [if_pos ⟨hz, htF⟩] at hEF hRF
        replace hz := hide hz
        go_enter Tryz.func67, Tryz.ntmps67
        go_wp2_with (first | (go_at_call 34; (with_reducible refine seq_gw hm.out ?_); intro g) | (go_at_call 96; refine (hcut.out _ g.grown).mono ?_; rintro ee w2 ⟨v1, v2, rfl, hv, hx2⟩; have hv1 := hide ((hv w2 (Sl.ext hh.out (g.grown.trans hx2))).1); clear hv) | (go_at_call 97; refine (jmpClone_c cl v1 w2 hv1.out (by omega)).mono ?_; rintro ee w3 ⟨v3, rfl, ho3, hx3⟩; have hX3 := hide (g.grown.trans (hx2.trans hx3)); have hsz := (g.grown.trans hx2).size; have hsz3 := hX3.out.size; replace ho3 := hide (own_base ho3 hsz); clear hv1) | (at_builtin; (refine wpl_app tJmp rfl (.tmp 28) (.tmp 33) rfl rfl (own_ext ho3.out ((Ext.refl w3).alloc _)) rfl (src_jmp Tryz.underlying22 w3 (t, -z) _) (by unfold maxLen; omega) (by omega) (by simp only [World.size_alloc]; omega) ?_; intro v7 w7 ho7 hg7 _; have hX7 := hide (ext_grown (hX3.out.alloc _) hg7 (fun k hk => (ho3.out.lt k hk).1)); have huf := hide (unlessFull_c (cl ++ [(t, -z)]) v7 w.heap.size w7 (own_appJ ho7)))) | (go_at_call 98; refine huf.out.mono ?_; rintro ee w4 ⟨v4, rfl, ho4, hx4⟩))
        go_returns
        rw [hEF.out, hRF.out]
        exact ⟨_, rfl, ho4, hX7.out.trans hx4⟩
      · have d : decide (t < 1125899906842624) = false := by rw [decide_eq_false_iff_not]; exact htF
        rw [if_neg (fun h => htF h.2)] at hEF hRF
        replace hz := hide hz
        clear htF
        go_enter Tryz.func67, Tryz.ntmps67
        go_wp2_with (first | (go_at_call 34; (with_reducible refine seq_gw hm.out ?_); intro g) | (go_at_call 96; refine (hcut.out _ g.grown).mono ?_; rintro ee w2 ⟨v1, v2, rfl, hv, hx2⟩; have hv1 := hide ((hv w2 (Sl.ext hh.out (g.grown.trans hx2))).1); clear hv) | (go_at_call 97; refine (jmpClone_c cl v1 w2 hv1.out (by omega)).mono ?_; rintro ee w3 ⟨v3, rfl, ho3, hx3⟩; have hX3 := hide (g.grown.trans (hx2.trans hx3)); have hsz := (g.grown.trans hx2).size; have huf := hide (unlessFull_c cl v3 w.heap.size w3 (own_base ho3 hsz)); clear hv1 ho3) | (go_at_call 98; refine huf.out.mono ?_; rintro ee w4 ⟨v4, rfl, ho4, hx4⟩))
        go_returns
        rw [hEF.out, hRF.out]
        exact ⟨_, rfl, ho4, hX3.out.trans hx4⟩
end Go.Proofs.YtgniebjigphcgaaGreat
