/-
  A helper of ours: no claim of its own. Layer 8 (msg): the document's check, a message's tick, which are the same, and what is made.
-/
import Derived.Test.YthidjngipkelcaaDoorMsgA
import Derived.Test.YthidjngipkelcaaDoorRowB
import Derived.Test.YthidjngipkelcaaDoorRowR
set_option linter.unusedVariables false
set_option linter.unusedSimpArgs false
namespace Go.Proofs.YthidjngipkelcaaDoor
open Go.RowKit
attribute [local go_sem] GW.cell GW.frozen In.eq_true In.le_true In.ne In.ne' In.ne_add In.ne_add' In.lt_add Upto.le_true Upto.le_add Upto.lt_add
set_option maxHeartbeats 1000000 in
theorem refSpan_c (f t : Int) (h1 : tickB f = true) (h2 : tickB t = true) (w : World) : Calls Tryd.prog 47 #[.agg #[.int .i64 f, .int .i64 t]] w fun e w' => e = .returned (.bool (decide (f < t))) ∧ Ext w w' := by
  have hf := hide (fun w => refTick_c f w)
  have ht := hide (fun w => refTick_c t w)
  rw [h1] at hf
  rw [h2] at ht
  clear h1 h2
  go_enter Tryd.func47, Tryd.ntmps47
  go_wp2_with (first | (go_at_call 46; (with_reducible refine seq_gw (hf.out _) ?_); intro g) | (go_at_call 46; (with_reducible refine seq_gw' (ht.out _) ?_); intro g2))
  go_returns
  exact ⟨rfl, ((Ext.refl w).alloc _).trans g2.grown⟩
theorem tickB_zero : tickB 0 = true := by decide
set_option maxHeartbeats 8000000 in
set_option maxRecDepth 100000 in
theorem refCheck_c (k i f t : Int) (l : List Vl) (v : Value) (w : World) (hl : Rw w [] v l) : Calls Tryd.prog 19 #[mg k i f t v] w fun e w' => e = .returned (.int .i64 (mchk k i f t l)) ∧ Ext w w' := by
  have hm := hide (fun w' (hX : Ext w w') => refRowMay_c l v w' (Sl.ext hl hX))
  obtain ⟨A, cap, rfl, hlc, hlm, -⟩ := rw_form hl
  unfold maxLen at hlm
  have hX0 := hide ((Ext.refl w).alloc (mO k i f t (.slice A l.length cap)))
  have hf := hide (fun w => refTick_c f w)
  have ht := hide (fun w => refTick_c t w)
  obtain ⟨R, hR⟩ : ∃ R, R = mchk k i f t l := ⟨_, rfl⟩
  rw [← hR]
  unfold mchk at hR
  clear hl
  by_cases h1 : k = 1
  · subst h1
    rw [if_pos rfl] at hR
    cases hi : idB i
    · rw [hi, Bool.and_false] at hR
      have e : R = 2 := by rw [hR]; rfl
      subst e
      rcases id_no hi with h2 | ⟨h2, h3⟩
      · clear hi hR
        go_enter Tryd.func19, Tryd.ntmps19
        go_wp2_with fail
        go_returns
        exact ⟨rfl, hX0.out⟩
      · clear hi hR
        go_enter Tryd.func19, Tryd.ntmps19
        go_wp2_with fail
        go_returns
        exact ⟨rfl, hX0.out⟩
    · obtain ⟨h2, h3⟩ := id_yes hi
      rw [hi, Bool.and_true] at hR
      cases ha : mayR l
      · rw [ha] at hm hR
        have e : R = 2 := by rw [hR]; rfl
        subst e
        clear hR hi ha
        go_enter Tryd.func19, Tryd.ntmps19
        go_wp2_with (go_at_call 45; (with_reducible refine seq_gw (hm.out _ hX0.out) ?_); intro g)
        go_returns
        exact ⟨rfl, hX0.out.trans g.grown⟩
      · rw [ha] at hm hR
        replace hR : R = tickE 1 f t := hR
        unfold tickE at hR
        cases hb : tickB f
        · rw [hb] at hf hR
          have e : R = 13 := by rw [hR]; rfl
          subst e
          clear hR hi ha hb ht
          go_enter Tryd.func19, Tryd.ntmps19
          go_wp2_with (first | (go_at_call 45; (with_reducible refine seq_gw (hm.out _ hX0.out) ?_); intro g) | (go_at_call 46; (with_reducible refine seq_gw' (hf.out _) ?_); intro g2))
          go_returns
          exact ⟨rfl, hX0.out.trans g2.grown⟩
        · cases hc : tickB t
          · rw [hb] at hf
            rw [hc] at ht
            rw [hb, hc] at hR
            have e : R = 13 := by rw [hR]; rfl
            subst e
            clear hR hi ha hb hc
            go_enter Tryd.func19, Tryd.ntmps19
            go_wp2_with (first | (go_at_call 45; (with_reducible refine seq_gw (hm.out _ hX0.out) ?_); intro g) | (go_at_call 46; (with_reducible refine seq_gw' (hf.out _) ?_); intro g2) | (go_at_call 46; (with_reducible refine seq_gw' (ht.out _) ?_); intro g3))
            go_returns
            exact ⟨rfl, hX0.out.trans g3.grown⟩
          · have hs := hide (fun w => refSpan_c f t hb hc w)
            rw [hb] at hf
            rw [hc] at ht
            rw [hb, hc] at hR
            replace hR : R = if (1 : Int) = 1 ∧ t ≤ f then 14 else 0 := hR
            by_cases hlt : f < t
            · rw [decide_eq_true hlt] at hs
              have e : R = 0 := by rw [hR, if_neg (fun h => by omega)]
              subst e
              clear hR hi ha hb hc hlt
              go_enter Tryd.func19, Tryd.ntmps19
              go_wp2_with (first | (go_at_call 45; (with_reducible refine seq_gw (hm.out _ hX0.out) ?_); intro g) | (go_at_call 46; (with_reducible refine seq_gw' (hf.out _) ?_); intro g2) | (go_at_call 46; (with_reducible refine seq_gw' (ht.out _) ?_); intro g3) | (go_at_call 47; (with_reducible refine seq_gw' (hs.out _) ?_); intro g4))
              go_returns
              exact ⟨rfl, hX0.out.trans g4.grown⟩
            · rw [decide_eq_false hlt] at hs
              have e : R = 14 := by rw [hR, if_pos ⟨rfl, by omega⟩]
              subst e
              clear hR hi ha hb hc hlt
              go_enter Tryd.func19, Tryd.ntmps19
              go_wp2_with (first | (go_at_call 45; (with_reducible refine seq_gw (hm.out _ hX0.out) ?_); intro g) | (go_at_call 46; (with_reducible refine seq_gw' (hf.out _) ?_); intro g2) | (go_at_call 46; (with_reducible refine seq_gw' (ht.out _) ?_); intro g3) | (go_at_call 47; (with_reducible refine seq_gw' (hs.out _) ?_); intro g4))
              go_returns
              exact ⟨rfl, hX0.out.trans g4.grown⟩
  · rw [if_neg h1] at hR
    by_cases h2 : k = 2
    · subst h2
      rw [if_pos rfl] at hR
      cases hi : idB i
      · rw [hi] at hR
        have e : R = 2 := by rw [hR]; rfl
        subst e
        clear hR h1
        rcases id_no hi with h2 | ⟨h2, h3⟩
        · clear hi
          go_enter Tryd.func19, Tryd.ntmps19
          go_wp2_with fail
          go_returns
          exact ⟨rfl, hX0.out⟩
        · clear hi
          go_enter Tryd.func19, Tryd.ntmps19
          go_wp2_with fail
          go_returns
          exact ⟨rfl, hX0.out⟩
      · obtain ⟨h2, h3⟩ := id_yes hi
        rw [hi] at hR
        by_cases hf0 : f = 0
        · subst hf0
          by_cases h0 : l.length = 0
          · have hle : l = [] := List.eq_nil_of_length_eq_zero h0
            subst hle
            have e : R = tickE 2 0 t := by rw [hR]; rfl
            rw [show mayR [] = true by rfl] at hm
            rw [tickB_zero] at hf
            unfold tickE at e
            rw [tickB_zero] at e
            clear hR h0 h1 hi
            cases hc : tickB t
            · rw [hc] at ht e
              replace e : R = 13 := e
              subst e
              clear hc
              go_enter Tryd.func19, Tryd.ntmps19
              go_wp2_with (first | (go_at_call 45; (with_reducible refine seq_gw (hm.out _ hX0.out) ?_); intro g) | (go_at_call 46; (with_reducible refine seq_gw' (hf.out _) ?_); intro g2) | (go_at_call 46; (with_reducible refine seq_gw' (ht.out _) ?_); intro g3))
              go_returns
              exact ⟨rfl, hX0.out.trans g3.grown⟩
            · rw [hc] at ht e
              replace e : R = 0 := by rw [e]; simp
              subst e
              clear hc
              go_enter Tryd.func19, Tryd.ntmps19
              go_wp2_with (first | (go_at_call 45; (with_reducible refine seq_gw (hm.out _ hX0.out) ?_); intro g) | (go_at_call 46; (with_reducible refine seq_gw' (hf.out _) ?_); intro g2) | (go_at_call 46; (with_reducible refine seq_gw' (ht.out _) ?_); intro g3))
              go_returns
              exact ⟨rfl, hX0.out.trans g3.grown⟩
          · have hpos : 0 < l.length := by omega
            have e : R = 2 := by
              rw [hR, if_neg]
              simp only [Bool.and_eq_true, Bool.not_eq_true', not_and, Bool.not_eq_false]
              intro _; unfold moreB; rw [if_pos rfl, decide_eq_true_iff]; exact .inr hpos
            subst e
            clear hR h0 h1 hi
            go_enter Tryd.func19, Tryd.ntmps19
            go_wp2_with fail
            go_returns
            exact ⟨rfl, hX0.out⟩
        · have e : R = 2 := by
            rw [hR, if_neg]
            simp only [Bool.and_eq_true, Bool.not_eq_true', not_and, Bool.not_eq_false]
            intro _; unfold moreB; rw [if_pos rfl, decide_eq_true_iff]; exact .inl hf0
          have e1 : (f != 0) = true := by simp [hf0]
          subst e
          clear hR h1 hi hf0
          go_enter Tryd.func19, Tryd.ntmps19
          go_wp2_with fail
          go_returns
          exact ⟨rfl, hX0.out⟩
    · rw [if_neg h2] at hR
      by_cases h3 : k = 3
      · subst h3
        rw [if_pos rfl] at hR
        by_cases hi0 : i = 0
        · subst hi0
          by_cases ht0 : t = 0
          · subst ht0
            by_cases h0 : l.length = 0
            · have hle : l = [] := List.eq_nil_of_length_eq_zero h0
              subst hle
              have e : R = tickE 3 f 0 := by rw [hR]; rfl
              rw [show mayR [] = true by rfl] at hm
              rw [tickB_zero] at ht
              unfold tickE at e
              rw [tickB_zero, Bool.and_true] at e
              clear hR h0 h1 h2
              cases hc : tickB f
              · rw [hc] at hf e
                replace e : R = 13 := e
                subst e
                clear hc
                go_enter Tryd.func19, Tryd.ntmps19
                go_wp2_with (first | (go_at_call 45; (with_reducible refine seq_gw (hm.out _ hX0.out) ?_); intro g) | (go_at_call 46; (with_reducible refine seq_gw' (hf.out _) ?_); intro g2))
                go_returns
                exact ⟨rfl, hX0.out.trans g2.grown⟩
              · rw [hc] at hf e
                replace e : R = 0 := by rw [e]; simp
                subst e
                clear hc
                go_enter Tryd.func19, Tryd.ntmps19
                go_wp2_with (first | (go_at_call 45; (with_reducible refine seq_gw (hm.out _ hX0.out) ?_); intro g) | (go_at_call 46; (with_reducible refine seq_gw' (hf.out _) ?_); intro g2) | (go_at_call 46; (with_reducible refine seq_gw' (ht.out _) ?_); intro g3))
                go_returns
                exact ⟨rfl, hX0.out.trans g3.grown⟩
            · have hpos : 0 < l.length := by omega
              have e : R = 2 := by
                rw [hR, if_pos]; unfold moreB; rw [if_neg (by decide), if_pos rfl, decide_eq_true_iff]; exact .inr (.inr hpos)
              subst e
              clear hR h0 h1 h2
              go_enter Tryd.func19, Tryd.ntmps19
              go_wp2_with fail
              go_returns
              exact ⟨rfl, hX0.out⟩
          · have e : R = 2 := by
              rw [hR, if_pos]; unfold moreB; rw [if_neg (by decide), if_pos rfl, decide_eq_true_iff]; exact .inr (.inl ht0)
            have e1 : (t != 0) = true := by simp [ht0]
            subst e
            clear hR h1 h2 ht0
            go_enter Tryd.func19, Tryd.ntmps19
            go_wp2_with fail
            go_returns
            exact ⟨rfl, hX0.out⟩
        · have e : R = 2 := by
            rw [hR, if_pos]; unfold moreB; rw [if_neg (by decide), if_pos rfl, decide_eq_true_iff]; exact .inl hi0
          have e1 : (i != 0) = true := by simp [hi0]
          subst e
          clear hR h1 h2 hi0
          go_enter Tryd.func19, Tryd.ntmps19
          go_wp2_with fail
          go_returns
          exact ⟨rfl, hX0.out⟩
      · rw [if_neg h3] at hR
        subst hR
        by_cases hlo : k < 1
        · clear h1 h2 h3
          go_enter Tryd.func19, Tryd.ntmps19
          go_wp2_with fail
          go_returns
          exact ⟨rfl, hX0.out⟩
        · have hhi : 3 < k := by omega
          have hlo' : 1 ≤ k := by omega
          clear h1 h2 h3 hlo
          go_enter Tryd.func19, Tryd.ntmps19
          go_wp2_with fail
          go_returns
          exact ⟨rfl, hX0.out⟩
/-- The first tick of which it changes something. -/
def msync (k i f t : Int) (l : List Vl) : Int := if mchk k i f t l = 0 then (if k = 2 then t else f) else 0
set_option maxHeartbeats 4000000 in
set_option maxRecDepth 100000 in
theorem sync_c (k i f t : Int) (l : List Vl) (v : Value) (w : World) (hl : Rw w [] v l) : Calls Tryd.prog 32 #[mg k i f t v] w fun e w' => e = .returned (.int .i64 (msync k i f t l)) ∧ Ext w w' := by
  have hc := hide (fun w' (hX : Ext w w') => check_c k i f t l v w' (Sl.ext hl hX))
  obtain ⟨A, cap, rfl, hlc, hlm, -⟩ := rw_form hl
  have hX0 := hide ((Ext.refl w).alloc (mO k i f t (.slice A l.length cap)))
  unfold msync
  generalize mchk k i f t l = x at *
  clear hl
  by_cases hx : x = 0
  · subst hx
    rw [if_pos rfl]
    by_cases h2 : k = 2
    · subst h2
      rw [if_pos rfl]
      go_enter Tryd.func32, Tryd.ntmps32
      go_wp2_with (go_at_call 9; (with_reducible refine seq_gw (hc.out _ hX0.out) ?_); intro g)
      go_returns
      exact ⟨rfl, hX0.out.trans g.grown⟩
    · rw [if_neg h2]
      have e2 : (k == 2) = false := by simp [h2]
      clear h2
      go_enter Tryd.func32, Tryd.ntmps32
      go_wp2_with (go_at_call 9; (with_reducible refine seq_gw (hc.out _ hX0.out) ?_); intro g)
      go_returns
      exact ⟨rfl, hX0.out.trans g.grown⟩
  · rw [if_neg hx]
    have e0 : (x != 0) = true := by simp [hx]
    clear hx
    go_enter Tryd.func32, Tryd.ntmps32
    go_wp2_with (go_at_call 9; (with_reducible refine seq_gw (hc.out _ hX0.out) ?_); intro g)
    go_returns
    exact ⟨rfl, hX0.out.trans g.grown⟩
def msame (k i f t : Int) (l : List Vl) (k' i' f' t' : Int) (m : List Vl) : Bool := decide (k = k' ∧ i = i' ∧ f = f' ∧ t = t' ∧ l = m)
set_option maxHeartbeats 4000000 in
set_option maxRecDepth 100000 in
theorem refMsgSame_c (k i f t : Int) (l : List Vl) (v : Value) (k' i' f' t' : Int) (m : List Vl) (u : Value) (w : World) (hl : Rw w [] v l) (hm : Rw w [] u m) : Calls Tryd.prog 13 #[mg k i f t v, mg k' i' f' t' u] w fun e w' => e = .returned (.bool (msame k i f t l k' i' f' t' m)) ∧ Ext w w' := by
  have hc := hide (fun w' (hX : Ext w w') => refRowSame_c (Sl.ext hl hX) (Sl.ext hm hX))
  have hX0 := hide (((Ext.refl w).alloc (mO k i f t v)).alloc (mO k' i' f' t' u))
  obtain ⟨R, hR⟩ : ∃ R, R = msame k i f t l k' i' f' t' m := ⟨_, rfl⟩
  rw [← hR]
  unfold msame at hR
  obtain ⟨A, cap, rfl, hlc, hlm, -⟩ := rw_form hl
  obtain ⟨B, cap2, rfl, hmc, hmm, -⟩ := rw_form hm
  clear hl hm
  by_cases h1 : k = k'
  · by_cases h2 : i = i'
    · by_cases h3 : f = f'
      · by_cases h4 : t = t'
        · have e : R = decide (l = m) := by rw [hR]; simp [h1, h2, h3, h4]
          rw [← e] at hc
          subst h1; subst h2; subst h3; subst h4
          clear hR e
          go_enter Tryd.func13, Tryd.ntmps13
          go_wp2_with (go_at_call 39; (with_reducible refine seq_gw (hc.out _ hX0.out) ?_); intro g)
          go_returns
          exact ⟨rfl, hX0.out.trans g.grown⟩
        · have e : R = false := by rw [hR, decide_eq_false_iff_not]; exact fun h => h4 h.2.2.2.1
          have q : (t == t') = false := by simp [h4]
          subst e; subst h1; subst h2; subst h3
          clear hR h4
          go_enter Tryd.func13, Tryd.ntmps13
          go_wp2_with fail
          go_returns
          exact ⟨rfl, hX0.out⟩
      · have e : R = false := by rw [hR, decide_eq_false_iff_not]; exact fun h => h3 h.2.2.1
        have q : (f == f') = false := by simp [h3]
        subst e; subst h1; subst h2
        clear hR h3
        go_enter Tryd.func13, Tryd.ntmps13
        go_wp2_with fail
        go_returns
        exact ⟨rfl, hX0.out⟩
    · have e : R = false := by rw [hR, decide_eq_false_iff_not]; exact fun h => h2 h.2.1
      have q : (i == i') = false := by simp [h2]
      subst e; subst h1
      clear hR h2
      go_enter Tryd.func13, Tryd.ntmps13
      go_wp2_with fail
      go_returns
      exact ⟨rfl, hX0.out⟩
  · have e : R = false := by rw [hR, decide_eq_false_iff_not]; exact fun h => h1 h.1
    have q : (k == k') = false := by simp [h1]
    subst e
    clear hR h1
    go_enter Tryd.func13, Tryd.ntmps13
    go_wp2_with fail
    go_returns
    exact ⟨rfl, hX0.out⟩
set_option maxHeartbeats 4000000 in
set_option maxRecDepth 100000 in
theorem begin_c (i f t : Int) (l : List Vl) (v : Value) (w : World) (hl : Rw w [] v l) (hz : l.length * 32 ≤ 140737488351232) : Calls Tryd.prog 31 #[.int .i64 i, .int .i64 f, .int .i64 t, v] w fun e w' => ∃ v', e = .returned (mg 1 i f t v') ∧ Rw w' [] v' l ∧ Ext w w' := by
  have hc := hide (fun w' (hX : Ext w w') => rowCopy_c l v w' (Sl.ext hl hX) hz)
  have hX0 := hide ((Ext.refl w).alloc (mO 0 0 0 0 (.slice none 0 0)))
  have O0 := hide (Ob.new w 26 [.int .i64 0, .int .i64 0, .int .i64 0, .int .i64 0, .slice none 0 0])
  clear hl
  go_enter Tryd.func31, Tryd.ntmps31
  go_wp2_with (go_at_call 59; refine (hc.out _ hX0.out).mono ?_; rintro ee w1 ⟨v1, rfl, ho1, hx1⟩; have O1 := O0.out.ext hx1; have c0 := O1.cell 0 rfl; have c1 := O1.cell 1 rfl; have c2 := O1.cell 2 rfl; have c3 := O1.cell 3 rfl; have c4 := O1.cell 4 rfl; have z0 := O1.free 0; have z1 := O1.free 1; have z2 := O1.free 2; have z3 := O1.free 3; have z4 := O1.free 4; have hlt1 := O1.lt; haveI : In w.heap.size w1 := ⟨hlt1⟩; obtain ⟨A1, cp1, rfl⟩ := own_form ho1)
  refine bodyPost_ret (by simp [results, Tryd.results31, go_sem, c0, c1, c2, c3, c4]; try rfl) rfl ?_
  have hF := (((((Fr.refl [w.heap.size] w1).setCell ⟨w.heap.size, 0, none⟩ (.int .i64 1) (.inl (by simp))).setCell ⟨w.heap.size, 1, none⟩ (.int .i64 i) (.inl (by simp))).setCell ⟨w.heap.size, 2, none⟩ (.int .i64 f) (.inl (by simp))).setCell ⟨w.heap.size, 3, none⟩ (.int .i64 t) (.inl (by simp))).setCell ⟨w.heap.size, 4, none⟩ (.slice A1 l.length cp1) (.inl (by simp))
  exact ⟨_, rfl, own_rw (S := []) (own_fr ho1 hF (by intro x hx; simp at hx; subst hx; simp)) (by simp), ext_fr (hX0.out.trans hx1) hF (by intro x hx; simp at hx; omega)⟩
theorem end_c (i t : Int) (w : World) : Calls Tryd.prog 33 #[.int .i64 i, .int .i64 t] w fun e w' => e = .returned (mg 2 i 0 t (.slice none 0 0)) ∧ Ext w w' := by
  go_enter Tryd.func33, Tryd.ntmps33
  go_wp2_with fail
  go_returns
  exact ⟨rfl, (Ext.refl w).alloc _⟩
theorem mark_c (t : Int) (w : World) : Calls Tryd.prog 34 #[.int .i64 t] w fun e w' => e = .returned (mg 3 0 t 0 (.slice none 0 0)) ∧ Ext w w' := by
  go_enter Tryd.func34, Tryd.ntmps34
  go_wp2_with fail
  go_returns
  exact ⟨rfl, (Ext.refl w).alloc _⟩
end Go.Proofs.YthidjngipkelcaaDoor
