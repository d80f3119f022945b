/-
  A helper of ours: no claim of its own. Layer 8 (msg): the document's check, a message's tick, which are the same, and what is made (as MsgB, beside Own).
-/
import Derived.Test.YtiknkcadbaeknaaGreatMapV
import Derived.Test.YtiknkcadbaeknaaGreatRowB
import Derived.Test.YtiknkcadbaeknaaGreatRowE
set_option linter.unusedVariables false
set_option linter.unusedSimpArgs false
namespace Go.Proofs.YtiknkcadbaeknaaGreat
open Go.RowKit
attribute [local go_sem] GW.cell GW.frozen In.eq_true In.le_true In.ne In.ne' In.ne_add In.ne_add' In.lt_add Upto.le_true Upto.le_add Upto.lt_add
set_option maxHeartbeats 1000000 in
theorem refSpan_c (f t : Int) (h1 : tickB f = true) (h2 : tickB t = true) (w : World) : Calls Tryz.prog 123 #[.agg #[.int .i64 f, .int .i64 t]] w fun e w' => e = .returned (.bool (decide (f < t))) ∧ Ext w w' := by
  have hf := hide (fun w => refTick_c f w)
  have ht := hide (fun w => refTick_c t w)
  rw [h1] at hf
  rw [h2] at ht
  clear h1 h2
  go_enter Tryz.func123, Tryz.ntmps123
  go_wp2_with (first | (go_at_call 122; (with_reducible refine seq_gw (hf.out _) ?_); intro g) | (go_at_call 122; (with_reducible refine seq_gw' (ht.out _) ?_); intro g2))
  go_returns
  exact ⟨rfl, ((Ext.refl w).alloc _).trans g2.grown⟩
theorem tickB_zero : tickB 0 = true := by decide
set_option maxHeartbeats 8000000 in
set_option maxRecDepth 100000 in
theorem refCheck_c (k i f t : Int) (l : List Vl) (v : Value) (w : World) (hl : Rw w [] v l) : Calls Tryz.prog 70 #[mg k i f t v] w fun e w' => e = .returned (.int .i64 (mchk k i f t l)) ∧ Ext w w' := by
  have hm := hide (fun w' (hX : Ext w w') => refRowMay_c l v w' (Sl.ext hl hX))
  obtain ⟨A, cap, rfl, hlc, hlm, -⟩ := rw_form hl
  unfold maxLen at hlm
  have hX0 := hide ((Ext.refl w).alloc (mO k i f t (.slice A l.length cap)))
  have hf := hide (fun w => refTick_c f w)
  have ht := hide (fun w => refTick_c t w)
  obtain ⟨R, hR⟩ : ∃ R, R = mchk k i f t l := ⟨_, rfl⟩
  rw [← hR]
  unfold mchk at hR
  clear hl
  by_cases h1 : k = 1
  · subst h1
    rw [if_pos rfl] at hR
    cases hi : idB i
    · rw [hi, Bool.and_false] at hR
      have e : R = 2 := by rw [hR]; rfl
      subst e
      rcases id_no hi with h2 | ⟨h2, h3⟩
      · clear hi hR
        go_enter Tryz.func70, Tryz.ntmps70
        go_wp2_with fail
        go_returns
        exact ⟨rfl, hX0.out⟩
      · clear hi hR
        go_enter Tryz.func70, Tryz.ntmps70
        go_wp2_with fail
        go_returns
        exact ⟨rfl, hX0.out⟩
    · obtain ⟨h2, h3⟩ := id_yes hi
      rw [hi, Bool.and_true] at hR
      cases ha : mayR l
      · rw [ha] at hm hR
        have e : R = 2 := by rw [hR]; rfl
        subst e
        clear hR hi ha
        go_enter Tryz.func70, Tryz.ntmps70
        go_wp2_with (go_at_call 121; (with_reducible refine seq_gw (hm.out _ hX0.out) ?_); intro g)
        go_returns
        exact ⟨rfl, hX0.out.trans g.grown⟩
      · rw [ha] at hm hR
        replace hR : R = tickE 1 f t := hR
        unfold tickE at hR
        cases hb : tickB f
        · rw [hb] at hf hR
          have e : R = 13 := by rw [hR]; rfl
          subst e
          clear hR hi ha hb ht
          go_enter Tryz.func70, Tryz.ntmps70
          go_wp2_with (first | (go_at_call 121; (with_reducible refine seq_gw (hm.out _ hX0.out) ?_); intro g) | (go_at_call 122; (with_reducible refine seq_gw' (hf.out _) ?_); intro g2))
          go_returns
          exact ⟨rfl, hX0.out.trans g2.grown⟩
        · cases hc : tickB t
          · rw [hb] at hf
            rw [hc] at ht
            rw [hb, hc] at hR
            have e : R = 13 := by rw [hR]; rfl
            subst e
            clear hR hi ha hb hc
            go_enter Tryz.func70, Tryz.ntmps70
            go_wp2_with (first | (go_at_call 121; (with_reducible refine seq_gw (hm.out _ hX0.out) ?_); intro g) | (go_at_call 122; (with_reducible refine seq_gw' (hf.out _) ?_); intro g2) | (go_at_call 122; (with_reducible refine seq_gw' (ht.out _) ?_); intro g3))
            go_returns
            exact ⟨rfl, hX0.out.trans g3.grown⟩
          · have hs := hide (fun w => refSpan_c f t hb hc w)
            rw [hb] at hf
            rw [hc] at ht
            rw [hb, hc] at hR
            replace hR : R = if (1 : Int) = 1 ∧ t ≤ f then 14 else 0 := hR
            by_cases hlt : f < t
            · rw [decide_eq_true hlt] at hs
              have e : R = 0 := by rw [hR, if_neg (fun h => by omega)]
              subst e
              clear hR hi ha hb hc hlt
              go_enter Tryz.func70, Tryz.ntmps70
              go_wp2_with (first | (go_at_call 121; (with_reducible refine seq_gw (hm.out _ hX0.out) ?_); intro g) | (go_at_call 122; (with_reducible refine seq_gw' (hf.out _) ?_); intro g2) | (go_at_call 122; (with_reducible refine seq_gw' (ht.out _) ?_); intro g3) | (go_at_call 123; (with_reducible refine seq_gw' (hs.out _) ?_); intro g4))
              go_returns
              exact ⟨rfl, hX0.out.trans g4.grown⟩
            · rw [decide_eq_false hlt] at hs
              have e : R = 14 := by rw [hR, if_pos ⟨rfl, by omega⟩]
              subst e
              clear hR hi ha hb hc hlt
              go_enter Tryz.func70, Tryz.ntmps70
              go_wp2_with (first | (go_at_call 121; (with_reducible refine seq_gw (hm.out _ hX0.out) ?_); intro g) | (go_at_call 122; (with_reducible refine seq_gw' (hf.out _) ?_); intro g2) | (go_at_call 122; (with_reducible refine seq_gw' (ht.out _) ?_); intro g3) | (go_at_call 123; (with_reducible refine seq_gw' (hs.out _) ?_); intro g4))
              go_returns
              exact ⟨rfl, hX0.out.trans g4.grown⟩
  · rw [if_neg h1] at hR
    by_cases h2 : k = 2
    · subst h2
      rw [if_pos rfl] at hR
      cases hi : idB i
      · rw [hi] at hR
        have e : R = 2 := by rw [hR]; rfl
        subst e
        clear hR h1
        rcases id_no hi with h2 | ⟨h2, h3⟩
        · clear hi
          go_enter Tryz.func70, Tryz.ntmps70
          go_wp2_with fail
          go_returns
          exact ⟨rfl, hX0.out⟩
        · clear hi
          go_enter Tryz.func70, Tryz.ntmps70
          go_wp2_with fail
          go_returns
          exact ⟨rfl, hX0.out⟩
      · obtain ⟨h2, h3⟩ := id_yes hi
        rw [hi] at hR
        by_cases hf0 : f = 0
        · subst hf0
          by_cases h0 : l.length = 0
          · have hle : l = [] := List.eq_nil_of_length_eq_zero h0
            subst hle
            have e : R = tickE 2 0 t := by rw [hR]; rfl
            rw [show mayR [] = true by rfl] at hm
            rw [tickB_zero] at hf
            unfold tickE at e
            rw [tickB_zero] at e
            clear hR h0 h1 hi
            cases hc : tickB t
            · rw [hc] at ht e
              replace e : R = 13 := e
              subst e
              clear hc
              go_enter Tryz.func70, Tryz.ntmps70
              go_wp2_with (first | (go_at_call 121; (with_reducible refine seq_gw (hm.out _ hX0.out) ?_); intro g) | (go_at_call 122; (with_reducible refine seq_gw' (hf.out _) ?_); intro g2) | (go_at_call 122; (with_reducible refine seq_gw' (ht.out _) ?_); intro g3))
              go_returns
              exact ⟨rfl, hX0.out.trans g3.grown⟩
            · rw [hc] at ht e
              replace e : R = 0 := by rw [e]; simp
              subst e
              clear hc
              go_enter Tryz.func70, Tryz.ntmps70
              go_wp2_with (first | (go_at_call 121; (with_reducible refine seq_gw (hm.out _ hX0.out) ?_); intro g) | (go_at_call 122; (with_reducible refine seq_gw' (hf.out _) ?_); intro g2) | (go_at_call 122; (with_reducible refine seq_gw' (ht.out _) ?_); intro g3))
              go_returns
              exact ⟨rfl, hX0.out.trans g3.grown⟩
          · have hpos : 0 < l.length := by omega
            have e : R = 2 := by
              rw [hR, if_neg]
              simp only [Bool.and_eq_true, Bool.not_eq_true', not_and, Bool.not_eq_false]
              intro _; unfold moreB; rw [if_pos rfl, decide_eq_true_iff]; exact .inr hpos
            subst e
            clear hR h0 h1 hi
            go_enter Tryz.func70, Tryz.ntmps70
            go_wp2_with fail
            go_returns
            exact ⟨rfl, hX0.out⟩
        · have e : R = 2 := by
            rw [hR, if_neg]
            simp only [Bool.and_eq_true, Bool.not_eq_true', not_and, Bool.not_eq_false]
            intro _; unfold moreB; rw [if_pos rfl, decide_eq_true_iff]; exact .inl hf0
          have e1 : (f != 0) = true := by simp [hf0]
          subst e
          clear hR h1 hi hf0
          go_enter Tryz.func70, Tryz.ntmps70
          go_wp2_with fail
          go_returns
          exact ⟨rfl, hX0.out⟩
    · rw [if_neg h2] at hR
      by_cases h3 : k = 3
      · subst h3
        rw [if_pos rfl] at hR
        by_cases hi0 : i = 0
        · subst hi0
          by_cases ht0 : t = 0
          · subst ht0
            by_cases h0 : l.length = 0
            · have hle : l = [] := List.eq_nil_of_length_eq_zero h0
              subst hle
              have e : R = tickE 3 f 0 := by rw [hR]; rfl
              rw [show mayR [] = true by rfl] at hm
              rw [tickB_zero] at ht
              unfold tickE at e
              rw [tickB_zero, Bool.and_true] at e
              clear hR h0 h1 h2
              cases hc : tickB f
              · rw [hc] at hf e
                replace e : R = 13 := e
                subst e
                clear hc
                go_enter Tryz.func70, Tryz.ntmps70
                go_wp2_with (first | (go_at_call 121; (with_reducible refine seq_gw (hm.out _ hX0.out) ?_); intro g) | (go_at_call 122; (with_reducible refine seq_gw' (hf.out _) ?_); intro g2))
                go_returns
                exact ⟨rfl, hX0.out.trans g2.grown⟩
              · rw [hc] at hf e
                replace e : R = 0 := by rw [e]; simp
                subst e
                clear hc
                go_enter Tryz.func70, Tryz.ntmps70
                go_wp2_with (first | (go_at_call 121; (with_reducible refine seq_gw (hm.out _ hX0.out) ?_); intro g) | (go_at_call 122; (with_reducible refine seq_gw' (hf.out _) ?_); intro g2) | (go_at_call 122; (with_reducible refine seq_gw' (ht.out _) ?_); intro g3))
                go_returns
                exact ⟨rfl, hX0.out.trans g3.grown⟩
            · have hpos : 0 < l.length := by omega
              have e : R = 2 := by
                rw [hR, if_pos]; unfold moreB; rw [if_neg (by decide), if_pos rfl, decide_eq_true_iff]; exact .inr (.inr hpos)
              subst e
              clear hR h0 h1 h2
              go_enter Tryz.func70, Tryz.ntmps70
              go_wp2_with fail
              go_returns
              exact ⟨rfl, hX0.out⟩
          · have e : R = 2 := by
              rw [hR, if_pos]; unfold moreB; rw [if_neg (by decide), if_pos rfl, decide_eq_true_iff]; exact .inr (.inl ht0)
            have e1 : (t != 0) = true := by simp [ht0]
            subst e
            clear hR h1 h2 ht0
            go_enter Tryz.func70, Tryz.ntmps70
            go_wp2_with fail
            go_returns
            exact ⟨rfl, hX0.out⟩
        · have e : R = 2 := by
            rw [hR, if_pos]; unfold moreB; rw [if_neg (by decide), if_pos rfl, decide_eq_true_iff]; exact .inl hi0
          have e1 : (i != 0) = true := by simp [hi0]
          subst e
          clear hR h1 h2 hi0
          go_enter Tryz.func70, Tryz.ntmps70
          go_wp2_with fail
          go_returns
          exact ⟨rfl, hX0.out⟩
      · rw [if_neg h3] at hR
        subst hR
        by_cases hlo : k < 1
        · clear h1 h2 h3
          go_enter Tryz.func70, Tryz.ntmps70
          go_wp2_with fail
          go_returns
          exact ⟨rfl, hX0.out⟩
        · have hhi : 3 < k := by omega
          have hlo' : 1 ≤ k := by omega
          clear h1 h2 h3 hlo
          go_enter Tryz.func70, Tryz.ntmps70
          go_wp2_with fail
          go_returns
          exact ⟨rfl, hX0.out⟩
/-- The first tick of which it changes something. -/
def msync (k i f t : Int) (l : List Vl) : Int := if mchk k i f t l = 0 then (if k = 2 then t else f) else 0
set_option maxHeartbeats 4000000 in
set_option maxRecDepth 100000 in
theorem sync_c (k i f t : Int) (l : List Vl) (v : Value) (w : World) (hl : Rw w [] v l) : Calls Tryz.prog 157 #[mg k i f t v] w fun e w' => e = .returned (.int .i64 (msync k i f t l)) ∧ Ext w w' := by
  have hc := hide (fun w' (hX : Ext w w') => check_c k i f t l v w' (Sl.ext hl hX))
  obtain ⟨A, cap, rfl, hlc, hlm, -⟩ := rw_form hl
  have hX0 := hide ((Ext.refl w).alloc (mO k i f t (.slice A l.length cap)))
  unfold msync
  generalize mchk k i f t l = x at *
  clear hl
  by_cases hx : x = 0
  · subst hx
    rw [if_pos rfl]
    by_cases h2 : k = 2
    · subst h2
      rw [if_pos rfl]
      go_enter Tryz.func157, Tryz.ntmps157
      go_wp2_with (go_at_call 116; (with_reducible refine seq_gw (hc.out _ hX0.out) ?_); intro g)
      go_returns
      exact ⟨rfl, hX0.out.trans g.grown⟩
    · rw [if_neg h2]
      have e2 : (k == 2) = false := by simp [h2]
      clear h2
      go_enter Tryz.func157, Tryz.ntmps157
      go_wp2_with (go_at_call 116; (with_reducible refine seq_gw (hc.out _ hX0.out) ?_); intro g)
      go_returns
      exact ⟨rfl, hX0.out.trans g.grown⟩
  · rw [if_neg hx]
    have e0 : (x != 0) = true := by simp [hx]
    clear hx
    go_enter Tryz.func157, Tryz.ntmps157
    go_wp2_with (go_at_call 116; (with_reducible refine seq_gw (hc.out _ hX0.out) ?_); intro g)
    go_returns
    exact ⟨rfl, hX0.out.trans g.grown⟩
def msame (k i f t : Int) (l : List Vl) (k' i' f' t' : Int) (m : List Vl) : Bool := decide (k = k' ∧ i = i' ∧ f = f' ∧ t = t' ∧ l = m)
end Go.Proofs.YtiknkcadbaeknaaGreat
