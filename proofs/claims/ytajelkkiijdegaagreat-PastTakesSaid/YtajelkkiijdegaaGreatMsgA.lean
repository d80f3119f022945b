/-
  A helper of ours: no claim of its own. Layer 8 (msg): what is wrong with a message, on both sides.
-/
import Derived.Test.YtajelkkiijdegaaGreatRowA
import Derived.WalkLawsBesides
set_option linter.unusedVariables false
set_option linter.unusedSimpArgs false
namespace Go.Proofs.YtajelkkiijdegaaGreat
open Go.RowKit
attribute [local go_sem] GW.cell GW.frozen In.eq_true In.le_true In.ne In.ne' In.ne_add In.ne_add' In.lt_add Upto.le_true Upto.le_add Upto.lt_add
/-- A message: kind, number, first tick, last tick; its row, where it lies. -/
abbrev mg (k i f t : Int) (v : Value) : Value := .agg #[.int .i64 k, .int .i64 i, .int .i64 f, .int .i64 t, v]
abbrev mO (k i f t : Int) (v : Value) : Obj := .cells #[.int .i64 k, .int .i64 i, .int .i64 f, .int .i64 t, v] 44
def tickB (t : Int) : Bool := decide (0 ≤ t ∧ t ≤ 1125899906842624)
def moreB (k i f t : Int) (n : Nat) : Bool := if k = 2 then decide (f ≠ 0 ∨ 0 < n) else if k = 3 then decide (i ≠ 0 ∨ t ≠ 0 ∨ 0 < n) else false
def tickE (k f t : Int) : Int := if tickB f && tickB t then (if k = 1 ∧ t ≤ f then 14 else 0) else 13
def idB (i : Int) : Bool := decide (1 ≤ i ∧ i ≤ 1099511627776)
/-- What is wrong with a message. -/
def mchk (k i f t : Int) (l : List Vl) : Int :=
  if k = 1 then (if mayR l && idB i then tickE k f t else 2)
  else if k = 2 then (if idB i && !moreB k i f t l.length then tickE k f t else 2)
  else if k = 3 then (if moreB k i f t l.length then 2 else tickE k f t)
  else 12
theorem tick_yes {t : Int} (h : tickB t = true) : 0 ≤ t ∧ t ≤ 1125899906842624 := by unfold tickB at h; simpa using h
theorem tick_no {t : Int} (h : tickB t = false) : t < 0 ∨ (0 ≤ t ∧ 1125899906842624 < t) := by unfold tickB at h; rw [decide_eq_false_iff_not] at h; omega
theorem id_yes {t : Int} (h : idB t = true) : 1 ≤ t ∧ t ≤ 1099511627776 := by unfold idB at h; simpa using h
theorem id_no {t : Int} (h : idB t = false) : t < 1 ∨ (1 ≤ t ∧ 1099511627776 < t) := by unfold idB at h; rw [decide_eq_false_iff_not] at h; omega
set_option maxHeartbeats 1000000 in
theorem misTick_c (t : Int) (w : World) : Calls Tryz.prog 197 #[.int .i64 t] w fun e w' => e = .returned (.bool (tickB t)) ∧ Ext w w' := by
  cases h : tickB t
  · rcases tick_no h with h1 | ⟨h1, h2⟩
    · clear h
      go_enter Tryz.func197, Tryz.ntmps197
      go_wp2_with fail
      go_returns
      exact ⟨rfl, Ext.refl w⟩
    · have h3 : decide (t ≤ 1125899906842624) = false := by rw [decide_eq_false_iff_not]; omega
      clear h h2
      go_enter Tryz.func197, Tryz.ntmps197
      go_wp2_with fail
      go_returns
      exact ⟨rfl, Ext.refl w⟩
  · obtain ⟨h1, h2⟩ := tick_yes h
    clear h
    go_enter Tryz.func197, Tryz.ntmps197
    go_wp2_with fail
    go_returns
    exact ⟨rfl, Ext.refl w⟩
set_option maxHeartbeats 1000000 in
theorem refTick_c (t : Int) (w : World) : Calls Tryz.prog 97 #[.int .i64 t] w fun e w' => e = .returned (.bool (tickB t)) ∧ Ext w w' := by
  cases h : tickB t
  · rcases tick_no h with h1 | ⟨h1, h2⟩
    · clear h
      go_enter Tryz.func97, Tryz.ntmps97
      go_wp2_with fail
      go_returns
      exact ⟨rfl, Ext.refl w⟩
    · have h3 : decide (t ≤ 1125899906842624) = false := by rw [decide_eq_false_iff_not]; omega
      clear h h2
      go_enter Tryz.func97, Tryz.ntmps97
      go_wp2_with fail
      go_returns
      exact ⟨rfl, Ext.refl w⟩
  · obtain ⟨h1, h2⟩ := tick_yes h
    clear h
    go_enter Tryz.func97, Tryz.ntmps97
    go_wp2_with fail
    go_returns
    exact ⟨rfl, Ext.refl w⟩
set_option maxHeartbeats 4000000 in
set_option maxRecDepth 100000 in
theorem hasMore_c (k i f t : Int) (n c : Nat) (A : Option Addr) (hn : n ≤ 9223372036854775807) (w : World) : Calls Tryz.prog 142 #[mg k i f t (.slice A n c)] w fun e w' => e = .returned (.bool (moreB k i f t n)) ∧ Ext w w' := by
  obtain ⟨R, hR⟩ : ∃ R, R = moreB k i f t n := ⟨_, rfl⟩
  rw [← hR]
  unfold moreB at hR
  by_cases h2 : k = 2
  · subst h2
    rw [if_pos rfl] at hR
    by_cases hf : f = 0
    · subst hf
      by_cases h0 : n = 0
      · subst h0
        have e : R = false := by rw [hR]; decide
        subst e
        clear hR
        go_enter Tryz.func142, Tryz.ntmps142
        go_wp2_with fail
        go_returns
        exact ⟨rfl, (Ext.refl w).alloc _⟩
      · have hpos : 0 < n := by omega
        have e : R = true := by rw [hR, decide_eq_true_iff]; exact .inr hpos
        subst e
        clear hR h0
        go_enter Tryz.func142, Tryz.ntmps142
        go_wp2_with fail
        go_returns
        exact ⟨rfl, (Ext.refl w).alloc _⟩
    · have e : R = true := by rw [hR, decide_eq_true_iff]; exact .inl hf
      have e1 : (f != 0) = true := by simp [hf]
      subst e
      clear hR hf
      go_enter Tryz.func142, Tryz.ntmps142
      go_wp2_with fail
      go_returns
      exact ⟨rfl, (Ext.refl w).alloc _⟩
  · rw [if_neg h2] at hR
    by_cases h3 : k = 3
    · subst h3
      rw [if_pos rfl] at hR
      by_cases hi : i = 0
      · subst hi
        by_cases ht : t = 0
        · subst ht
          by_cases h0 : n = 0
          · subst h0
            have e : R = false := by rw [hR]; decide
            subst e
            clear hR h2
            go_enter Tryz.func142, Tryz.ntmps142
            go_wp2_with fail
            go_returns
            exact ⟨rfl, (Ext.refl w).alloc _⟩
          · have hpos : 0 < n := by omega
            have e : R = true := by rw [hR, decide_eq_true_iff]; exact .inr (.inr hpos)
            subst e
            clear hR h0 h2
            go_enter Tryz.func142, Tryz.ntmps142
            go_wp2_with fail
            go_returns
            exact ⟨rfl, (Ext.refl w).alloc _⟩
        · have e : R = true := by rw [hR, decide_eq_true_iff]; exact .inr (.inl ht)
          have e1 : (t != 0) = true := by simp [ht]
          subst e
          clear hR ht h2
          go_enter Tryz.func142, Tryz.ntmps142
          go_wp2_with fail
          go_returns
          exact ⟨rfl, (Ext.refl w).alloc _⟩
      · have e : R = true := by rw [hR, decide_eq_true_iff]; exact .inl hi
        have e1 : (i != 0) = true := by simp [hi]
        subst e
        clear hR hi h2
        go_enter Tryz.func142, Tryz.ntmps142
        go_wp2_with fail
        go_returns
        exact ⟨rfl, (Ext.refl w).alloc _⟩
    · rw [if_neg h3] at hR
      subst hR
      have e2 : (k == 2) = false := by simp [h2]
      have e3 : (k == 3) = false := by simp [h3]
      clear h2 h3
      go_enter Tryz.func142, Tryz.ntmps142
      go_wp2_with fail
      go_returns
      exact ⟨rfl, (Ext.refl w).alloc _⟩
set_option maxHeartbeats 4000000 in
set_option maxRecDepth 100000 in
theorem checkTicks_c (k i f t : Int) (v : Value) (w : World) : Calls Tryz.prog 143 #[mg k i f t v] w fun e w' => e = .returned (.int .i64 (tickE k f t)) ∧ Ext w w' := by
  have hf := hide (fun w => misTick_c f w)
  have ht := hide (fun w => misTick_c t w)
  obtain ⟨R, hR⟩ : ∃ R, R = tickE k f t := ⟨_, rfl⟩
  rw [← hR]
  unfold tickE at hR
  cases h1 : tickB f
  · rw [h1] at hf hR
    have e : R = 13 := by rw [hR]; rfl
    subst e
    clear hR h1 ht
    go_enter Tryz.func143, Tryz.ntmps143
    go_wp2_with (go_at_call 197; (with_reducible refine seq_gw (hf.out _) ?_); intro g)
    go_returns
    exact ⟨rfl, ((Ext.refl w).alloc _).trans g.grown⟩
  · cases h2 : tickB t
    · rw [h1] at hf
      rw [h2] at ht
      rw [h1, h2] at hR
      have e : R = 13 := by rw [hR]; rfl
      subst e
      clear hR h1 h2
      go_enter Tryz.func143, Tryz.ntmps143
      go_wp2_with (first | (go_at_call 197; (with_reducible refine seq_gw (hf.out _) ?_); intro g) | (go_at_call 197; (with_reducible refine seq_gw' (ht.out _) ?_); intro g2))
      go_returns
      exact ⟨rfl, ((Ext.refl w).alloc _).trans g2.grown⟩
    · rw [h1] at hf
      rw [h2] at ht
      rw [h1, h2] at hR
      replace hR : R = if k = 1 ∧ t ≤ f then 14 else 0 := hR
      clear h1 h2
      by_cases hk : k = 1
      · subst hk
        by_cases hlt : t ≤ f
        · have e : R = 14 := by rw [hR, if_pos ⟨rfl, hlt⟩]
          subst e
          clear hR
          go_enter Tryz.func143, Tryz.ntmps143
          go_wp2_with (first | (go_at_call 197; (with_reducible refine seq_gw (hf.out _) ?_); intro g) | (go_at_call 197; (with_reducible refine seq_gw' (ht.out _) ?_); intro g2))
          go_returns
          exact ⟨rfl, ((Ext.refl w).alloc _).trans g2.grown⟩
        · have e : R = 0 := by rw [hR, if_neg (fun h => hlt h.2)]
          subst e
          clear hR
          go_enter Tryz.func143, Tryz.ntmps143
          go_wp2_with (first | (go_at_call 197; (with_reducible refine seq_gw (hf.out _) ?_); intro g) | (go_at_call 197; (with_reducible refine seq_gw' (ht.out _) ?_); intro g2))
          go_returns
          exact ⟨rfl, ((Ext.refl w).alloc _).trans g2.grown⟩
      · have e : R = 0 := by rw [hR, if_neg (fun h => hk h.1)]
        have e1 : (k == 1) = false := by simp [hk]
        subst e
        clear hR hk
        go_enter Tryz.func143, Tryz.ntmps143
        go_wp2_with (first | (go_at_call 197; (with_reducible refine seq_gw (hf.out _) ?_); intro g) | (go_at_call 197; (with_reducible refine seq_gw' (ht.out _) ?_); intro g2))
        go_returns
        exact ⟨rfl, ((Ext.refl w).alloc _).trans g2.grown⟩
set_option maxHeartbeats 4000000 in
set_option maxRecDepth 100000 in
theorem check_c (k i f t : Int) (l : List Vl) (v : Value) (w : World) (hl : Rw w [] v l) : Calls Tryz.prog 87 #[mg k i f t v] w fun e w' => e = .returned (.int .i64 (mchk k i f t l)) ∧ Ext w w' := by
  have hm := hide (fun w' (hX : Ext w w') => rowMay_c l v w' (Sl.ext hl hX))
  obtain ⟨A, cap, rfl, hlc, hlm, -⟩ := rw_form hl
  unfold maxLen at hlm
  have hmo := hide (fun w => hasMore_c k i f t l.length cap A (by omega) w)
  have htk := hide (fun w => checkTicks_c k i f t (.slice A l.length cap) w)
  have hX0 := hide ((Ext.refl w).alloc (mO k i f t (.slice A l.length cap)))
  obtain ⟨R, hR⟩ : ∃ R, R = mchk k i f t l := ⟨_, rfl⟩
  rw [← hR]
  unfold mchk at hR
  clear hl
  by_cases h1 : k = 1
  · subst h1
    rw [if_pos rfl] at hR
    rw [show moreB 1 i f t l.length = false from rfl] at hmo
    cases ha : mayR l
    · rw [ha] at hm hR
      have e : R = 2 := by rw [hR]; rfl
      subst e
      clear hR ha
      go_enter Tryz.func87, Tryz.ntmps87
      go_wp2_with (go_at_call 55; (with_reducible refine seq_gw (hm.out _ hX0.out) ?_); intro g)
      go_returns
      exact ⟨rfl, hX0.out.trans g.grown⟩
    · rw [ha] at hm hR
      cases hi : idB i
      · rw [hi] at hR
        have e : R = 2 := by rw [hR]; rfl
        subst e
        clear hR ha
        rcases id_no hi with h2 | ⟨h2, h3⟩
        · clear hi
          go_enter Tryz.func87, Tryz.ntmps87
          go_wp2_with (go_at_call 55; (with_reducible refine seq_gw (hm.out _ hX0.out) ?_); intro g)
          go_returns
          exact ⟨rfl, hX0.out.trans g.grown⟩
        · clear hi
          go_enter Tryz.func87, Tryz.ntmps87
          go_wp2_with (go_at_call 55; (with_reducible refine seq_gw (hm.out _ hX0.out) ?_); intro g)
          go_returns
          exact ⟨rfl, hX0.out.trans g.grown⟩
      · rw [hi] at hR
        obtain ⟨h2, h3⟩ := id_yes hi
        replace hR : R = tickE 1 f t := hR
        rw [← hR] at htk
        clear hR ha hi
        go_enter Tryz.func87, Tryz.ntmps87
        go_wp2_with (first | (go_at_call 55; (with_reducible refine seq_gw (hm.out _ hX0.out) ?_); intro g) | (go_at_call 142; (first | (with_reducible refine seq_gw' (hmo.out _) ?_) | (with_reducible refine seq_gw (hmo.out _) ?_)); intro g2) | (go_at_call 143; (with_reducible refine seq_gw' (htk.out _) ?_); intro g3))
        go_returns
        exact ⟨rfl, hX0.out.trans g3.grown⟩
  · rw [if_neg h1] at hR
    by_cases h2 : k = 2
    · subst h2
      rw [if_pos rfl] at hR
      cases hi : idB i
      · rw [hi] at hR
        have e : R = 2 := by rw [hR]; rfl
        subst e
        clear hR h1
        rcases id_no hi with h2 | ⟨h2, h3⟩
        · clear hi
          go_enter Tryz.func87, Tryz.ntmps87
          go_wp2_with fail
          go_returns
          exact ⟨rfl, hX0.out⟩
        · clear hi
          go_enter Tryz.func87, Tryz.ntmps87
          go_wp2_with fail
          go_returns
          exact ⟨rfl, hX0.out⟩
      · rw [hi] at hR
        obtain ⟨h2, h3⟩ := id_yes hi
        cases hb : moreB 2 i f t l.length
        · rw [hb] at hR hmo
          replace hR : R = tickE 2 f t := hR
          rw [← hR] at htk
          clear hR hi h1 hb
          go_enter Tryz.func87, Tryz.ntmps87
          go_wp2_with (first | (go_at_call 142; (first | (with_reducible refine seq_gw' (hmo.out _) ?_) | (with_reducible refine seq_gw (hmo.out _) ?_)); intro g2) | (go_at_call 143; (with_reducible refine seq_gw' (htk.out _) ?_); intro g3))
          go_returns
          exact ⟨rfl, hX0.out.trans g3.grown⟩
        · rw [hb] at hR hmo
          have e : R = 2 := by rw [hR]; rfl
          subst e
          clear hR hi h1 hb
          go_enter Tryz.func87, Tryz.ntmps87
          go_wp2_with (go_at_call 142; (first | (with_reducible refine seq_gw' (hmo.out _) ?_) | (with_reducible refine seq_gw (hmo.out _) ?_)); intro g2)
          go_returns
          exact ⟨rfl, hX0.out.trans g2.grown⟩
    · rw [if_neg h2] at hR
      by_cases h3 : k = 3
      · subst h3
        rw [if_pos rfl] at hR
        cases hb : moreB 3 i f t l.length
        · rw [hb] at hR hmo
          replace hR : R = tickE 3 f t := hR
          rw [← hR] at htk
          clear hR h1 h2 hb
          go_enter Tryz.func87, Tryz.ntmps87
          go_wp2_with (first | (go_at_call 142; (first | (with_reducible refine seq_gw' (hmo.out _) ?_) | (with_reducible refine seq_gw (hmo.out _) ?_)); intro g2) | (go_at_call 143; (with_reducible refine seq_gw' (htk.out _) ?_); intro g3))
          go_returns
          exact ⟨rfl, hX0.out.trans g3.grown⟩
        · rw [hb] at hR hmo
          have e : R = 2 := by rw [hR]; rfl
          subst e
          clear hR h1 h2 hb
          go_enter Tryz.func87, Tryz.ntmps87
          go_wp2_with (go_at_call 142; (first | (with_reducible refine seq_gw' (hmo.out _) ?_) | (with_reducible refine seq_gw (hmo.out _) ?_)); intro g2)
          go_returns
          exact ⟨rfl, hX0.out.trans g2.grown⟩
      · rw [if_neg h3] at hR
        subst hR
        have e1 : (k == 1) = false := by simp [h1]
        have e2 : (k == 2) = false := by simp [h2]
        have e3 : (k == 3) = false := by simp [h3]
        clear h1 h2 h3
        go_enter Tryz.func87, Tryz.ntmps87
        go_wp2_with fail
        go_returns
        exact ⟨rfl, hX0.out⟩
end Go.Proofs.YtajelkkiijdegaaGreat
