/-
  A helper of ours: no claim of its own. Layer 9 (step): the laws of step functions, as lists: a ring, values at places, both sides of a place. No program in it.
-/
import Derived.Test.YtoghgjgaolinaaaRowC
import Derived.Test.YtoghgjgaolinaaaStepT
set_option linter.unusedVariables false
set_option linter.unusedSimpArgs false
namespace Go.Proofs.Ytoghgjgaolinaaa
open Go.RowKit
attribute [local go_sem] GW.cell GW.frozen In.eq_true In.le_true In.ne In.ne' In.ne_add In.ne_add' In.lt_add Upto.le_true Upto.le_add Upto.lt_add
abbrev bxR (v : Value) : Obj := .cells #[v] 34
section
variable {l m : List Vl} {v u : Value} {w : World}
set_option maxHeartbeats 2000000 in
set_option maxRecDepth 100000 in
theorem rowCompareNo_c (hl : Rw w [] v l) (hm : Rw w [] u m) (h : (mayR l && mayR m) = false) : Calls Try.prog 71 #[v, u] w fun e w' => e = .returned (.int .i64 0) ∧ Ext w w' := by
  have h1 := hide (fun w' (hX : Ext w w') => rowMay_c l v w' (Sl.ext hl hX))
  have h2 := hide (fun w' (hX : Ext w w') => rowMay_c m u w' (Sl.ext hm hX))
  obtain ⟨A, cap, rfl, -, -, -⟩ := rw_form hl
  obtain ⟨B, cap2, rfl, -, -, -⟩ := rw_form hm
  have hX0 := hide (((Ext.refl w).alloc (bxR (.slice A l.length cap))).alloc (bxR (.slice B m.length cap2)))
  clear hl hm
  cases ha : mayR l
  · rw [ha] at h1
    clear h ha
    go_enter Try.func71, Try.ntmps71
    go_wp2_with (go_at_call 72; (with_reducible refine seq_gw (h1.out _ hX0.out) ?_); intro g)
    go_returns
    exact ⟨rfl, hX0.out.trans g.grown⟩
  · rw [ha, Bool.true_and] at h
    rw [ha] at h1
    rw [h] at h2
    clear h ha
    go_enter Try.func71, Try.ntmps71
    go_wp2_with (first | (go_at_call 72; (with_reducible refine seq_gw (h1.out _ hX0.out) ?_); intro g) | (go_at_call 72; (with_reducible refine seq_gw' (h2.out _ (hX0.out.trans g.grown)) ?_); intro g2))
    go_returns
    exact ⟨rfl, hX0.out.trans g2.grown⟩
set_option maxHeartbeats 4000000 in
set_option maxRecDepth 100000 in
theorem rowCompareYes_c (hl : Rw w [] v l) (hm : Rw w [] u m) (ha : mayR l = true) (hb : mayR m = true) : Calls Try.prog 71 #[v, u] w fun e w' => e = .returned (.int .i64 (cmpT l m)) ∧ Ext w w' := by
  have h1 := hide (fun w' (hX : Ext w w') => rowMay_c l v w' (Sl.ext hl hX))
  have h2 := hide (fun w' (hX : Ext w w') => rowMay_c m u w' (Sl.ext hm hX))
  rw [ha] at h1
  rw [hb] at h2
  obtain ⟨A, cap, rfl, hlc, hlm, hat⟩ := rw_form hl
  obtain ⟨B, cap2, rfl, hmc, hmm, hbt⟩ := rw_form hm
  unfold maxLen at hlm hmm
  have l8 := (mayR_iff.1 ha).1
  have m8 := (mayR_iff.1 hb).1
  replace hat := hide hat
  replace hbt := hide hbt
  have hX0 := hide (((Ext.refl w).alloc (bxR (.slice A l.length cap))).alloc (bxR (.slice B m.length cap2)))
  have oa := (Ob.new w 34 [.slice A l.length cap]).alloc (bxR (.slice B m.length cap2))
  have ob : Ob ((w.alloc (bxR (.slice A l.length cap))).alloc (bxR (.slice B m.length cap2))) (w.heap.size + 1) 34 [.slice B m.length cap2] := by
    have := Ob.new (w.alloc (bxR (.slice A l.length cap))) 34 [.slice B m.length cap2]
    simpa using this
  replace oa := hide oa
  replace ob := hide ob
  have hf : Hid (∀ w', Ext ((w.alloc (bxR (.slice A l.length cap))).alloc (bxR (.slice B m.length cap2))) w' → Calls Try.prog 108 #[.int .i64 (min l.length m.length : Nat), .func (.func 109) #[] #[.pointer (some ⟨w.heap.size, 0, none⟩), .pointer (some ⟨w.heap.size + 1, 0, none⟩)]] w' fun e w'' => e = .returned (.int .i64 (pre l m : Nat)) ∧ Ext w' w'') :=
    fun w' hX => first_c (Sl.ext hl (hX0.out.trans hX)) (Sl.ext hm (hX0.out.trans hX)) (oa.out.ext hX) (ob.out.ext hX) _ rfl
  have hpl := pre_le l m
  by_cases hlt : m.length < l.length
  · have e0 : min l.length m.length = m.length := by omega
    rw [e0] at hf
    have hI : (m.length : Int) < l.length := by omega
    by_cases hp : pre l m = m.length
    · have hce := cmpT_end l m (by rw [e0]; exact hp)
      rw [hce]
      rw [hp] at hf
      have hc := hide (fun w => cmpInt_c l.length m.length w)
      clear hce hp e0 hlt hat hbt hpl ha hb oa ob hl hm
      go_enter Try.func71, Try.ntmps71
      go_wp2_with (first | (go_at_call 72; (with_reducible refine seq_gw (h1.out _ hX0.out) ?_); intro g) | (go_at_call 72; (with_reducible refine seq_gw' (h2.out _ (hX0.out.trans g.grown)) ?_); intro g2) | (go_at_call 108; (with_reducible refine seq_gw' (hf.out _ g2.grown) ?_); intro g3) | (go_at_call 110; (with_reducible refine seq_gw' (hc.out _) ?_); intro g4))
      go_returns
      exact ⟨rfl, hX0.out.trans g4.grown⟩
    · obtain ⟨x, hx⟩ : ∃ x, l[pre l m]? = some x := ⟨_, List.getElem?_eq_getElem (by omega)⟩
      obtain ⟨y, hy⟩ : ∃ y, m[pre l m]? = some y := ⟨_, List.getElem?_eq_getElem (by omega)⟩
      have hcd := cmpT_diff l m x y hx hy
      rw [hcd]
      obtain ⟨b, o, rfl, -, hb1, c0, c1, c2⟩ := hat.out _ x hx
      obtain ⟨b', o', rfl, -, hb2, d0, d1, d2⟩ := hbt.out _ y hy
      obtain ⟨xk, xn, xs⟩ := x
      obtain ⟨yk, yn, ys⟩ := y
      have hc := hide (fun w => compare_c xk xn yk yn xs ys w)
      have hpb : (((pre l m : Nat) : Int) == m.length) = false := by rw [beq_eq_false_iff_ne]; omega
      have hp1 : pre l m < l.length := by omega
      have hp2 : pre l m < m.length := by omega
      haveI : In b w := ⟨hb1⟩
      haveI : In b' w := ⟨hb2⟩
      generalize pre l m = q at *
      clear hcd hp e0 hlt hat hbt hx hy hpl ha hb oa ob hl hm
      go_enter Try.func71, Try.ntmps71
      go_wp2_with (first | (go_at_call 72; (with_reducible refine seq_gw (h1.out _ hX0.out) ?_); intro g) | (go_at_call 72; (with_reducible refine seq_gw' (h2.out _ (hX0.out.trans g.grown)) ?_); intro g2) | (go_at_call 108; (with_reducible refine seq_gw' (hf.out _ g2.grown) ?_); intro g3))
      refine wp_region_gw (by kernel_rfl) (by kernel_rfl) ?_
      repeat (go_big_quiet_step ((go_at_call 111; with_reducible exact quiet_gw (hc.out _))))
      refine wpQuiet_nil ?_
      intro g4
      go_wp2_with fail
      go_returns
      exact ⟨rfl, hX0.out.trans (g3.grown.trans g4.grown)⟩
  · have e0 : min l.length m.length = l.length := by omega
    rw [e0] at hf
    have hI : ¬ (m.length : Int) < l.length := by omega
    by_cases hp : pre l m = l.length
    · have hce := cmpT_end l m (by rw [e0]; exact hp)
      rw [hce]
      rw [hp] at hf
      have hc := hide (fun w => cmpInt_c l.length m.length w)
      clear hce hp e0 hlt hat hbt hpl ha hb oa ob hl hm
      go_enter Try.func71, Try.ntmps71
      go_wp2_with (first | (go_at_call 72; (with_reducible refine seq_gw (h1.out _ hX0.out) ?_); intro g) | (go_at_call 72; (with_reducible refine seq_gw' (h2.out _ (hX0.out.trans g.grown)) ?_); intro g2) | (go_at_call 108; (with_reducible refine seq_gw' (hf.out _ g2.grown) ?_); intro g3) | (go_at_call 110; (with_reducible refine seq_gw' (hc.out _) ?_); intro g4))
      go_returns
      exact ⟨rfl, hX0.out.trans g4.grown⟩
    · obtain ⟨x, hx⟩ : ∃ x, l[pre l m]? = some x := ⟨_, List.getElem?_eq_getElem (by omega)⟩
      obtain ⟨y, hy⟩ : ∃ y, m[pre l m]? = some y := ⟨_, List.getElem?_eq_getElem (by omega)⟩
      have hcd := cmpT_diff l m x y hx hy
      rw [hcd]
      obtain ⟨b, o, rfl, -, hb1, c0, c1, c2⟩ := hat.out _ x hx
      obtain ⟨b', o', rfl, -, hb2, d0, d1, d2⟩ := hbt.out _ y hy
      obtain ⟨xk, xn, xs⟩ := x
      obtain ⟨yk, yn, ys⟩ := y
      have hc := hide (fun w => compare_c xk xn yk yn xs ys w)
      have hpb : (((pre l m : Nat) : Int) == l.length) = false := by rw [beq_eq_false_iff_ne]; omega
      have hp1 : pre l m < l.length := by omega
      have hp2 : pre l m < m.length := by omega
      haveI : In b w := ⟨hb1⟩
      haveI : In b' w := ⟨hb2⟩
      generalize pre l m = q at *
      clear hcd hp e0 hlt hat hbt hx hy hpl ha hb oa ob hl hm
      go_enter Try.func71, Try.ntmps71
      go_wp2_with (first | (go_at_call 72; (with_reducible refine seq_gw (h1.out _ hX0.out) ?_); intro g) | (go_at_call 72; (with_reducible refine seq_gw' (h2.out _ (hX0.out.trans g.grown)) ?_); intro g2) | (go_at_call 108; (with_reducible refine seq_gw' (hf.out _ g2.grown) ?_); intro g3))
      refine wp_region_gw (by kernel_rfl) (by kernel_rfl) ?_
      repeat (go_big_quiet_step ((go_at_call 111; with_reducible exact quiet_gw (hc.out _))))
      refine wpQuiet_nil ?_
      intro g4
      go_wp2_with fail
      go_returns
      exact ⟨rfl, hX0.out.trans (g3.grown.trans g4.grown)⟩
theorem rowCompare_c (hl : Rw w [] v l) (hm : Rw w [] u m) : Calls Try.prog 71 #[v, u] w fun e w' => e = .returned (.int .i64 (cmpR l m)) ∧ Ext w w' := by
  cases h : (mayR l && mayR m)
  · rw [show cmpR l m = 0 by unfold cmpR; rw [h]; rfl]
    exact rowCompareNo_c hl hm h
  · rw [show cmpR l m = cmpT l m by unfold cmpR; rw [h]; rfl]
    rw [Bool.and_eq_true] at h
    exact rowCompareYes_c hl hm h.1 h.2
end
end Go.Proofs.Ytoghgjgaolinaaa
set_option linter.unusedVariables false
set_option linter.unusedSimpArgs false
namespace Go.Proofs.Ytoghgjgaolinaaa
open Go.RowKit
theorem full_zero {f : List Jp} : full f = 0 ↔ mayJ f = true := by
  unfold full
  cases mayJ f
  · simp
  · simp
theorem twE_zero {op : Int → Int → Int} {f g : List Jp} : twE op f g = 0 ↔ mayJ f = true ∧ mayJ g = true ∧ mayJ (opd op f g) = true := by
  unfold twE
  cases mayJ f <;> cases mayJ g <;> simp [full_zero]
theorem twR_ok {op : Int → Int → Int} {f g : List Jp} (h : twE op f g = 0) : twR op f g = opd op f g := by unfold twR; rw [if_pos h]
theorem opd_eq {op : Int → Int → Int} (h0 : op 0 0 = 0) {f g k : List Jp} (hf : mayJ f = true) (hg : mayJ g = true) (hk : Canon k) (hF : ∀ j ∈ k, j.1 < 1125899906842624) (h : ∀ t, jv k t = op (jv f t) (jv g t)) : k = opd op f g :=
  one_form hk (opd_canon op f g) hF (opd_lt hf hg) fun t ht => by rw [opd_val h0 hf hg t ht, h]
theorem tw_comm {op : Int → Int → Int} (h0 : op 0 0 = 0) (hc : ∀ x y, op x y = op y x) (f g : List Jp) : twE op f g = twE op g f ∧ twR op f g = twR op g f := by
  have e : mayJ f = true → mayJ g = true → opd op f g = opd op g f := fun hf hg =>
    opd_eq h0 hg hf (opd_canon op f g) (opd_lt hf hg) fun t => by rw [opd_all h0 hf hg, hc]
  have e1 : twE op f g = twE op g f := by
    unfold twE
    rw [Bool.and_comm]
    cases hf : mayJ f
    · simp
    · cases hg : mayJ g
      · simp
      · simp [e hf hg]
  refine ⟨e1, ?_⟩
  unfold twR
  rw [← e1]
  split
  · rename_i h
    obtain ⟨hf, hg, _⟩ := twE_zero.1 h
    exact e hf hg
  · rfl
theorem tw_of_eq {op op' : Int → Int → Int} {f g f' g' : List Jp} (hf : mayJ f = true) (hg : mayJ g = true) (hf' : mayJ f' = true) (hg' : mayJ g' = true) (h : opd op f g = opd op' f' g') : twE op f g = twE op' f' g' ∧ twR op f g = twR op' f' g' := by
  have e : twE op f g = twE op' f' g' := by unfold twE; rw [hf, hg, hf', hg', h]
  exact ⟨e, by unfold twR; rw [← e, h]⟩
theorem tw_assoc {f g h : List Jp} (h1 : twE (· + ·) f g = 0) (h2 : twE (· + ·) g h = 0) : twE (· + ·) (twR (· + ·) f g) h = twE (· + ·) f (twR (· + ·) g h) ∧ twR (· + ·) (twR (· + ·) f g) h = twR (· + ·) f (twR (· + ·) g h) := by
  rw [twR_ok h1, twR_ok h2]
  obtain ⟨hf, hg, hfg⟩ := twE_zero.1 h1
  obtain ⟨_, hh, hgh⟩ := twE_zero.1 h2
  refine tw_of_eq hfg hh hf hgh ?_
  refine opd_eq rfl hf hgh (opd_canon _ _ _) (opd_lt hfg hh) fun t => ?_
  rw [opd_all rfl hfg hh, opd_all rfl hf hg, opd_all rfl hg hh]
  exact Int.add_assoc _ _ _
theorem tw_dist {f g h : List Jp} (h1 : twE (· * ·) f g = 0) (h2 : twE (· + ·) g h = 0) (h3 : twE (· * ·) f h = 0) : twE (· * ·) f (twR (· + ·) g h) = twE (· + ·) (twR (· * ·) f g) (twR (· * ·) f h) ∧ twR (· * ·) f (twR (· + ·) g h) = twR (· + ·) (twR (· * ·) f g) (twR (· * ·) f h) := by
  rw [twR_ok h1, twR_ok h2, twR_ok h3]
  obtain ⟨hf, hg, hfg⟩ := twE_zero.1 h1
  obtain ⟨_, hh, hgh⟩ := twE_zero.1 h2
  obtain ⟨_, _, hfh⟩ := twE_zero.1 h3
  refine tw_of_eq hf hgh hfg hfh ?_
  refine opd_eq rfl hfg hfh (opd_canon _ _ _) (opd_lt hf hgh) fun t => ?_
  rw [opd_all rfl hf hgh, opd_all rfl hg hh, opd_all rfl hf hg, opd_all rfl hf hh]
  exact Int.mul_add _ _ _
theorem tw_point {op : Int → Int → Int} (h0 : op 0 0 = 0) {f g : List Jp} (h : twE op f g = 0) (t : Int) : atV (twR op f g) t = op (atV f t) (atV g t) := by
  rw [twR_ok h]
  obtain ⟨hf, hg, hfg⟩ := twE_zero.1 h
  unfold atV
  rw [hf, hg, hfg]
  exact opd_all h0 hf hg t
theorem jv_end {k : List Jp} (hk : ∀ j ∈ k, j.1 < 1125899906842624) {t : Int} (ht : 1125899906842624 ≤ t) : jv k t = jv k 1125899906842623 := by
  rw [jv_high (fun j hj => by have := hk j hj; omega), jv_high (fun j hj => by have := hk j hj; omega)]
theorem ahE_zero {f : List Jp} {t : Int} : ahE f t = 0 ↔ mayJ f = true ∧ mayJ (ahL f t) = true := by
  unfold ahE; cases mayJ f <;> simp [full_zero]
theorem reE_zero {f : List Jp} {t : Int} : reE f t = 0 ↔ mayJ f = true ∧ mayJ (reL f t) = true := by
  unfold reE; cases mayJ f <;> simp [full_zero]
theorem ah_left {f : List Jp} {t p : Int} (h : ahE f t = 0) (hp : p < t) : atV (ahR f t) p = atV f p := by
  unfold ahR; rw [if_pos h]
  obtain ⟨hf, ha⟩ := ahE_zero.1 h
  unfold atV; rw [hf, ha]
  simp only [if_true]
  by_cases hpF : p < 1125899906842624
  · rw [ahL_val hf t p hpF]; unfold ahV; rw [if_pos hp]
  · rw [jv_end (k := ahL f t) (t := p) (tell_lt _ _ _ _ (ahP_lt hf t)) (by omega), jv_end (k := f) (fun j hj => (mayJ_at hf j hj).2) (t := p) (by omega)]
    rw [ahL_val hf t _ (by omega)]; unfold ahV; rw [if_pos (by omega)]
theorem ah_right {f : List Jp} {t p : Int} (h : ahE f t = 0) (hp : t ≤ p) (ht : t < 1125899906842624) : atV (ahR f t) p = 0 := by
  unfold ahR; rw [if_pos h]
  obtain ⟨hf, ha⟩ := ahE_zero.1 h
  unfold atV; rw [ha]
  simp only [if_true]
  by_cases hpF : p < 1125899906842624
  · rw [ahL_val hf t p hpF]; unfold ahV; rw [if_neg (by omega)]
  · rw [jv_end (k := ahL f t) (t := p) (tell_lt _ _ _ _ (ahP_lt hf t)) (by omega)]
    rw [ahL_val hf t _ (by omega)]; unfold ahV; rw [if_neg (by omega)]
theorem reC_val {f : List Jp} (hf : mayJ f = true) (t u : Int) (hu : -1 ≤ u) : jv (reC f t) u = js (cutL f t) + jv (cutR f t) u := by
  unfold reC; split
  · rw [jv, if_pos (by simp only; omega)]
  · rename_i h0; simp only [ne_eq, Decidable.not_not] at h0; rw [h0]; omega
theorem re_right {f : List Jp} {t p : Int} (h : reE f t = 0) (hp : t ≤ p) (h0 : 0 ≤ t) (ht : t < 1125899906842624) : atV (reR f t) p = atV f p := by
  unfold reR; rw [if_pos h]
  obtain ⟨hf, ha⟩ := reE_zero.1 h
  unfold atV; rw [hf, ha]
  simp only [if_true]
  rw [← rest_code hf t ht, reC_val hf t p (by omega)]
  have e := jv_append (cutL f t) (cutR f t) p
  rw [cut_eq, jv_high (f := cutL f t) (fun j hj => by have := cutL_lt f t j hj; omega)] at e
  exact e.symm
theorem re_left {f : List Jp} {t p : Int} (h : reE f t = 0) (hp : p < t) (hp1 : -1 ≤ p) (ht : t < 1125899906842624) : atV (reR f t) p = atV f (t - 1) := by
  unfold reR; rw [if_pos h]
  obtain ⟨hf, ha⟩ := reE_zero.1 h
  unfold atV; rw [hf, ha]
  simp only [if_true]
  have hc := (mayJ_canon hf).1
  rw [← rest_code hf t ht, reC_val hf t p (by omega), jv_low (f := cutR f t) (fun j hj => by have := cutR_ge hc t j hj; omega), cutL_js hc]; omega
end Go.Proofs.Ytoghgjgaolinaaa
