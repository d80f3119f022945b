/-
  A helper of ours: no claim of its own. Layer 9 (step): the library's searches at jumps; step functions, on both sides; copies.
-/
import Derived.Test.YtljkneajdndgjabGreatStepA
set_option linter.unusedVariables false
set_option linter.unusedSimpArgs false
namespace Go.Proofs.YtljkneajdndgjabGreat
open Go.RowKit
attribute [local go_sem] GW.cell GW.frozen In.eq_true In.le_true In.ne In.ne' In.ne_add In.ne_add' In.lt_add Upto.le_true Upto.le_add Upto.lt_add
/-- The first place from k on that holds such a one, or -1. -/
def jidxP (p : Jp → Bool) : Nat → List Jp → Int
  | _, [] => -1
  | k, x :: r => if p x then k else jidxP p (k + 1) r
set_option maxHeartbeats 2000000 in
theorem indexToo_c (l : List Jp) (v : Value) (w : World) (h : Jw w [] v l) : Calls Tryz.prog 147 #[v, .func (.func 99) #[] #[]] w fun e w' => e = .returned (.int .i64 (jidxP tooJ 0 l)) ∧ Ext w w' := by
  obtain ⟨A, cap, rfl, hl, hm, hat⟩ := jw_form h
  unfold maxLen at hm
  replace hat := hide hat
  clear h
  obtain ⟨R, hR⟩ : ∃ R, R = jidxP tooJ 0 l := ⟨_, rfl⟩
  rw [← hR]
  replace hR := hide hR
  go_enter Tryz.func147, Tryz.ntmps147
  go_wp2_with fail
  go_loopg [8] l.length (fun gh i wr => ∃ (k : Nat), i = .int .i64 k ∧ k + gh = l.length ∧ Hid (R = jidxP tooJ k (l.drop k)) ∧ Ext w wr)
  case atStart => exact ⟨0, rfl, by omega, by simpa using hR, Ext.refl w⟩
  case round =>
    obtain ⟨k, rfl, hk, hRk, hX⟩ := hrel
    clear hR
    by_cases hlt : k < l.length
    · obtain ⟨x, hx⟩ : ∃ x, l[k]? = some x := ⟨_, List.getElem?_eq_getElem hlt⟩
      obtain ⟨b, o, rfl, -, hb, c0, c1⟩ := hat.out k x hx
      have k0 := jcell_later hX c0
      have k1 := jcell_later hX c1
      have hbr : b < wr.heap.size := block_lt_of_cell k0
      have hin := hide (fun w => isTooGreat_c x w)
      have hR2 := hRk.out
      rw [jdrop_cons hx] at hR2
      simp only [jidxP] at hR2
      replace hR2 := hide hR2
      obtain ⟨xp, xn⟩ := x
      clear c0 c1 hat hx
      cases hmx : tooJ (xp, xn)
      · rw [hmx] at hin hR2
        replace hmx := hide hmx
        go_wp2_with (go_at_call 99; (with_reducible refine seq_gw (hin.out _) ?_); intro g)
        go_roundg (l.length - (k + 1))
        case measure => omega
        case rel => exact ⟨k + 1, by go_num, by omega, hR2, hX.trans g.grown⟩
      · rw [hmx] at hin hR2
        replace hmx := hide hmx
        go_wp2_with (go_at_call 99; (with_reducible refine seq_gw (hin.out _) ?_); intro g)
        go_returns
        exact ⟨by rw [hR2.out]; rfl, hX.trans g.grown⟩
    · have hk' : k = l.length := by omega
      have hge : (l.length : Int) ≤ k := by omega
      have hR2 := hRk.out
      rw [hk', List.drop_length] at hR2
      replace hR2 := hide hR2
      replace hk' := hide hk'
      go_wp2_with fail
      go_returns
      exact ⟨by rw [hR2.out]; rfl, hX⟩
theorem wrapN {q : Nat} (h : q < 9223372036854775808) : IntKind.i64.wrap (q : Int) = q := by
  simp [IntKind.wrap, IntKind.bits, IntKind.signed]; omega
theorem mayJ_bad {l : List Jp} {k : Nat} {x : Jp} (hx : l[k]? = some x) (h : okJ x = false) : mayJ l = false := by
  cases hm : mayJ l
  · rfl
  · rw [(mayJ_iff.1 hm).2.1 x (List.mem_of_getElem? hx)] at h; cases h
theorem mayJ_desc {l : List Jp} {q : Nat} {x y : Jp} (hy : l[q]? = some y) (hx : l[q + 1]? = some x) (h : x.1 ≤ y.1) : mayJ l = false := by
  cases hm : mayJ l
  · rfl
  · obtain ⟨h1, e1⟩ := List.getElem?_eq_some_iff.1 hy
    obtain ⟨h2, e2⟩ := List.getElem?_eq_some_iff.1 hx
    have := List.pairwise_iff_getElem.1 (mayJ_iff.1 hm).2.2 q (q + 1) h1 h2 (by omega)
    rw [e1, e2] at this; omega
theorem mayJ_more {l : List Jp} {k : Nat} {x : Jp} (hn : l.length ≤ 1024) (ih : mayJ (l.take k) = true) (hx : l[k]? = some x) (hok : okJ x = true) (hl : ∀ q y, k = q + 1 → l[q]? = some y → y.1 < x.1) : mayJ (l.take (k + 1)) = true := by
  obtain ⟨_, h2, h3⟩ := mayJ_iff.1 ih
  refine mayJ_iff.2 ⟨by rw [List.length_take]; omega, fun j hj => ?_, ?_⟩
  · rw [take_snoc hx] at hj
    rcases List.mem_append.1 hj with hj | hj
    · exact h2 j hj
    · simp only [List.mem_singleton] at hj; rw [hj]; exact hok
  · rw [take_snoc hx]
    refine List.pairwise_append.2 ⟨h3, by simp, fun a ha b hb => ?_⟩
    simp only [List.mem_singleton] at hb; subst hb
    rcases k with _ | q
    · simp at ha
    · have hq : q < l.length := by have := (List.getElem?_eq_some_iff.1 hx).1; omega
      have hy := hl q l[q] rfl (List.getElem?_eq_getElem hq)
      rw [take_snoc (List.getElem?_eq_getElem hq)] at ha h3
      rcases List.mem_append.1 ha with ha | ha
      · have := (List.pairwise_append.1 h3).2.2 a ha l[q] (by simp); omega
      · simp only [List.mem_singleton] at ha; rw [ha]; exact hy
set_option maxHeartbeats 8000000 in
set_option maxRecDepth 100000 in
theorem stepMay_c (l : List Jp) (v : Value) (w : World) (h : Jw w [] v l) : Calls Tryz.prog 54 #[v] w fun e w' => e = .returned (.bool (mayJ l)) ∧ Ext w w' := by
  obtain ⟨A, cap, rfl, hl, hm, hat⟩ := jw_form h
  unfold maxLen at hm
  replace hat := hide hat
  clear h
  obtain ⟨R, hR⟩ : ∃ R, R = mayJ l := ⟨_, rfl⟩
  rw [← hR]
  by_cases h8 : l.length ≤ 1024
  · have h8I : (l.length : Int) ≤ 1024 := by omega
    have h80 := hide h8
    replace hR := hide hR
    clear h8
    go_enter Tryz.func54, Tryz.ntmps54
    go_wp2_with fail
    go_loopg [10] l.length (fun gh i wr => ∃ (k : Nat), i = .int .i64 k ∧ k + gh = l.length ∧ Hid (mayJ (l.take k) = true) ∧ Ext w wr)
    case atStart => exact ⟨0, rfl, by omega, mayJ_nil, Ext.refl w⟩
    case round =>
      obtain ⟨k, rfl, hk, hpre, hX⟩ := hrel
      by_cases hlt : k < l.length
      · obtain ⟨x, hx⟩ : ∃ x, l[k]? = some x := ⟨_, List.getElem?_eq_getElem hlt⟩
        have hat' := hat
        obtain ⟨b, o, rfl, -, hb, c0, c1⟩ := hat.out k x hx
        have k0 := jcell_later hX c0
        have k1 := jcell_later hX c1
        have hbr : b < wr.heap.size := block_lt_of_cell k0
        haveI : In b wr := ⟨hbr⟩
        clear c0 c1
        obtain ⟨xp, xn⟩ := x
        have hi := hide (fun w => isInstant_c xp w)
        have ht := hide (fun w => isTooGreat_c (xp, xn) w)
        cases hok : okJ (xp, xn)
        · have hR2 : Hid (R = false) := by show _ = _; rw [hR.out]; exact mayJ_bad hx hok
          clear hx hpre
          cases hI : instB xp
          · rw [hI] at hi
            replace hI := hide hI
            go_wp2_with (first | (go_at_call 98; (with_reducible refine seq_gw (hi.out _) ?_); intro g) | (go_at_call 99; (with_reducible refine seq_gw' (ht.out _) ?_); intro g2))
            go_returns
            exact ⟨by rw [hR2.out]; rfl, (hX.alloc _).trans g.grown⟩
          · rw [hI] at hi
            by_cases h0 : xn = 0
            · subst h0
              replace hI := hide hI
              go_wp2_with (first | (go_at_call 98; (with_reducible refine seq_gw (hi.out _) ?_); intro g) | (go_at_call 99; (with_reducible refine seq_gw' (ht.out _) ?_); intro g2))
              go_returns
              exact ⟨by rw [hR2.out]; rfl, (hX.alloc _).trans g.grown⟩
            · have hz : (xn == 0) = false := by simp [h0]
              have hT : tooJ (xp, xn) = true := by
                cases hT : tooJ (xp, xn)
                · exfalso
                  have h1 := inst_yes hI
                  unfold tooJ at hT; rw [decide_eq_false_iff_not] at hT
                  unfold okJ at hok; rw [decide_eq_false_iff_not] at hok
                  simp only at hT hok; omega
                · rfl
              rw [hT] at ht
              replace hT := hide hT
              replace hI := hide hI
              replace hok := hide hok
              clear h0
              go_wp2_with (first | (go_at_call 98; (with_reducible refine seq_gw (hi.out _) ?_); intro g) | (go_at_call 99; (with_reducible refine seq_gw' (ht.out _) ?_); intro g2))
              go_returns
              exact ⟨by rw [hR2.out]; rfl, (hX.alloc _).trans g2.grown⟩
        · obtain ⟨ok1, ok2, ok3, ok4, ok5⟩ := okJ_iff.1 hok
          simp only at ok1 ok2 ok3 ok4 ok5
          have hI : instB xp = true := by unfold instB; rw [decide_eq_true_iff]; omega
          have hT : tooJ (xp, xn) = false := by unfold tooJ; rw [decide_eq_false_iff_not]; simp only; omega
          have hz : (xn == 0) = false := by simp; omega
          rw [hI] at hi
          rw [hT] at ht
          replace hI := hide hI
          replace hT := hide hT
          clear ok1 ok2 ok3 ok4 ok5
          rcases k with _ | q
          · have hnext : Hid (mayJ (l.take (0 + 1)) = true) := mayJ_more h80.out hpre.out hx hok (fun q y e => by cases e)
            clear hx hpre hat
            replace hok := hide hok
            simp only [Nat.zero_mul, Nat.add_zero] at k0 k1
            go_wp2_with (first | (go_at_call 98; (with_reducible refine seq_gw (hi.out _) ?_); intro g) | (go_at_call 99; (with_reducible refine seq_gw' (ht.out _) ?_); intro g2))
            go_quiet (fail)
            go_wp2_with fail
            go_roundg (l.length - 1)
            case measure => omega
            case rel => exact ⟨0 + 1, by go_num, by omega, hnext, ((hX.alloc _).trans g2.grown).drewN _⟩
          · have hq : q < l.length := by omega
            obtain ⟨y, hy⟩ : ∃ y, l[q]? = some y := ⟨_, List.getElem?_eq_getElem hq⟩
            obtain ⟨b2, o2, e2, -, hb2, c2, -⟩ := hat.out q y hy
            obtain ⟨rfl, rfl⟩ : b = b2 ∧ o = o2 := by simpa using e2
            have k2 := jcell_later hX c2
            obtain ⟨yp, yn⟩ := y
            have hqI : (q : Int) < l.length := by omega
            have hwq : IntKind.i64.wrap (q : Int) = q := wrapN (by omega)
            clear e2 hb2 c2
            by_cases hle : xp ≤ yp
            · have hR2 : Hid (R = false) := by show _ = _; rw [hR.out]; exact mayJ_desc hy hx hle
              have dle : decide (xp ≤ yp) = true := by rw [decide_eq_true_iff]; exact hle
              clear hx hy hpre hat
              replace hok := hide hok
              go_wp2_with (first | (go_at_call 98; (with_reducible refine seq_gw (hi.out _) ?_); intro g) | (go_at_call 99; (with_reducible refine seq_gw' (ht.out _) ?_); intro g2))
              go_quiet (fail)
              go_wp2_with fail
              go_returns
              exact ⟨by rw [hR2.out]; rfl, ((hX.alloc _).trans g2.grown).drewN _⟩
            · have hnext : Hid (mayJ (l.take (q + 1 + 1)) = true) := mayJ_more h80.out hpre.out hx hok (fun q' y' e hy' => by
                obtain rfl : q = q' := by omega
                rw [hy] at hy'; cases hy'; simp only; omega)
              have dle : decide (xp ≤ yp) = false := by rw [decide_eq_false_iff_not]; exact hle
              clear hx hy hpre hat hle
              replace hok := hide hok
              go_wp2_with (first | (go_at_call 98; (with_reducible refine seq_gw (hi.out _) ?_); intro g) | (go_at_call 99; (with_reducible refine seq_gw' (ht.out _) ?_); intro g2))
              go_quiet (fail)
              clear hwq
              go_wp2_with fail
              go_roundg (l.length - (q + 1 + 1))
              case measure => omega
              case rel => exact ⟨q + 1 + 1, by go_num, by omega, hnext, ((hX.alloc _).trans g2.grown).drewN _⟩
      · have hk' : k = l.length := by omega
        have hge : (l.length : Int) ≤ k := by omega
        have hR2 : Hid (R = true) := by
          show _ = _
          have := hpre.out
          rw [hk', List.take_length] at this
          rw [hR.out]; exact this
        replace hk' := hide hk'
        clear hpre
        go_wp2_with fail
        go_returns
        exact ⟨by rw [hR2.out]; rfl, hX⟩
  · have e : R = false := by rw [hR]; unfold mayJ; rw [decide_eq_false h8, Bool.false_and]
    have h8' : (1024 : Int) < l.length := by omega
    subst e
    clear h8 hR
    go_enter Tryz.func54, Tryz.ntmps54
    go_wp2_with fail
    go_returns
    exact ⟨rfl, Ext.refl w⟩
set_option maxHeartbeats 1000000 in
set_option maxRecDepth 100000 in
theorem jmpClone_c (l : List Jp) (v : Value) (w : World) (h : Jw w [] v l) (hz : l.length * 16 ≤ 140737488351232) : Calls Tryz.prog 94 #[v] w fun e w' => ∃ v', e = .returned v' ∧ OwnJ w' w.heap.size v' l ∧ Ext w w' := by
  obtain ⟨A, cap, rfl, hl, hm, -⟩ := jw_form h
  have hq := fun w => Lib.run_eql_slice_nil (P := Tryz.prog) w 39 80 A l.length cap 0 0 Tryz.underlying39
  cases A with
  | none =>
    have hl0 : l = [] := by
      obtain ⟨A', cap', e, _, _, h3, h4⟩ := h
      rcases h4 with h4 | ⟨b, o, rfl, _⟩
      · have := congrArg List.length h4; rw [ps_length] at this; exact List.eq_nil_of_length_eq_zero (by simp at this; omega)
      · cases e
    subst hl0
    clear h hq
    have hq0 := fun w => Lib.run_eql_slice_nil (P := Tryz.prog) w 39 80 none 0 cap 0 0 Tryz.underlying39
    show Calls Tryz.prog 94 #[.slice none 0 cap] w fun e w' => ∃ v', e = .returned v' ∧ OwnJ w' w.heap.size v' [] ∧ Ext w w'
    go_enter Tryz.func94, Tryz.ntmps94
    go_wp2_with fail
    go_returns
    exact ⟨_, rfl, World.ownsRow_nil _ _ _ _, Ext.refl w⟩
  | some a =>
    have hlit := hide (World.ownsRow_lit (base := w.heap.size) (e := 80) (size := 2) w #[] 0 (Nat.le_refl _) (by decide) rfl)
    have hv := hide h
    clear h
    go_enter Tryz.func94, Tryz.ntmps94
    go_wp2_with (at_builtin; (refine wpl_app tJmp rfl (.tmp 5) (.tmp 6) rfl rfl hlit.out rfl (src_sl Tryz.underlying39 (Sl.ext hv.out ((Ext.refl w).alloc _)) (ps_one _) (by omega)) (by unfold maxLen; omega) (by omega) (by simp) ?_; intro v1 w1 ho1 hg1 _))
    go_returns
    have ho2 : OwnJ w1 w.heap.size v1 l := by have := own_appJ (l := []) ho1; simpa using this
    exact ⟨_, rfl, ho2, ext_grown ((Ext.refl w).alloc _) hg1 (fun k hk => (hlit.out.lt k hk).1)⟩
set_option maxHeartbeats 1000000 in
theorem unlessFull_c (l : List Jp) (v : Value) (B : Nat) (w : World) (h : OwnJ w B v l) : Calls Tryz.prog 95 #[v] w fun e w' => ∃ v', e = .returned (.tuple #[v', .int .i64 (full l)]) ∧ OwnJ w' B v' (kept l) ∧ Ext w w' := by
  have hm := hide (stepMay_c l v w (own_jw (S := []) h (by simp)))
  have ho := hide h
  obtain ⟨A, cap, rfl⟩ := own_form h
  unfold full kept
  clear h
  cases hb : mayJ l
  · rw [hb] at hm
    replace hb := hide hb
    rw [if_neg (by decide), if_neg (by decide)]
    go_enter Tryz.func95, Tryz.ntmps95
    go_wp2_with (go_at_call 54; (with_reducible refine seq_gw hm.out ?_); intro g)
    go_returns
    exact ⟨_, rfl, World.ownsRow_nil _ _ _ _, g.grown⟩
  · rw [hb] at hm
    replace hb := hide hb
    rw [if_pos rfl, if_pos rfl]
    go_enter Tryz.func95, Tryz.ntmps95
    go_wp2_with (go_at_call 54; (with_reducible refine seq_gw hm.out ?_); intro g)
    go_returns
    exact ⟨_, rfl, own_ext ho.out g.grown, g.grown⟩
end Go.Proofs.YtljkneajdndgjabGreat
