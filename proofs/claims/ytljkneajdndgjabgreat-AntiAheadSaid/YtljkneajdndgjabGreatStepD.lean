/-
  A helper of ours: no claim of its own. Layer 9 (step): two functions at once, by the code.
-/
import Derived.Test.YtljkneajdndgjabGreatStepC
set_option linter.unusedVariables false
set_option linter.unusedSimpArgs false
namespace Go.Proofs.YtljkneajdndgjabGreat
open Go.RowKit
attribute [local go_sem] GW.cell GW.frozen In.eq_true In.le_true In.ne In.ne' In.ne_add In.ne_add' In.lt_add Upto.le_true Upto.le_add Upto.lt_add
attribute [-go_sem] sliced
attribute [local go_sem] sliced_eq
/-- The product of two numbers, one where the other is 0. -/
def addO (x y : Int) : Int := x + y
def mulO (x y : Int) : Int := x * y
def whO (x y : Int) : Int := if y = 0 then x else 0
theorem mul_small {x y : Int} (hx : -1073741824 ≤ x ∧ x ≤ 1073741824) (hy : -1073741824 ≤ y ∧ y ≤ 1073741824) : -1152921504606846976 ≤ x * y ∧ x * y ≤ 1152921504606846976 := by
  have h1 : x.natAbs ≤ 1073741824 := by omega
  have h2 : y.natAbs ≤ 1073741824 := by omega
  have h3 : (x * y).natAbs ≤ 1073741824 * 1073741824 := by rw [Int.natAbs_mul]; exact Nat.mul_le_mul h1 h2
  generalize x * y = z at *
  omega
def Small (op : Int → Int → Int) : Prop := ∀ x y, (-1073741824 ≤ x ∧ x ≤ 1073741824) → (-1073741824 ≤ y ∧ y ≤ 1073741824) → -1152921504606846976 ≤ op x y ∧ op x y ≤ 1152921504606846976
theorem small_add : Small addO := fun x y h1 h2 => by unfold addO; omega
theorem small_mul : Small mulO := fun x y h1 h2 => mul_small h1 h2
theorem small_wh : Small whO := fun x y h1 h2 => by unfold whO; split <;> omega
theorem js_pre {f1 f2 : List Jp} (h : mayJ (f1 ++ f2) = true) : -1073741824 ≤ js f1 ∧ js f1 ≤ 1073741824 := by
  have h1 := js_bound (K := 1048576) (by omega) (mayJ_net (mayJ_left h))
  have h2 := mayJ_len (mayJ_left h)
  omega
theorem pas_measure {f1 f2 g1 g2 : List Jp} {t : Int} (hf : mayJ (f1 ++ f2) = true) (hg : mayJ (g1 ++ g2) = true) (h0 : ¬ (f2 = [] ∧ g2 = [])) (ht : t = min (nxt f2) (nxt g2)) : (pasR f2 t).length + (pasR g2 t).length < f2.length + g2.length := by
  have a1 := nxt_le hf
  have a2 := nxt_le hg
  have l1 : (pasR f2 t).length ≤ f2.length := by have := congrArg List.length (pas_eq f2 t); rw [List.length_append] at this; omega
  have l2 : (pasR g2 t).length ≤ g2.length := by have := congrArg List.length (pas_eq g2 t); rw [List.length_append] at this; omega
  rcases f2 with _ | ⟨j, r⟩
  · rcases g2 with _ | ⟨k, s⟩
    · exact absurd ⟨rfl, rfl⟩ h0
    · have e : k.1 = t := by simp only [nxt] at ht a2; omega
      simp only [pasR, if_pos e, List.length_cons] at *; omega
  · by_cases e : j.1 = t
    · simp only [pasR, if_pos e, List.length_cons] at *; omega
    · rcases g2 with _ | ⟨k, s⟩
      · exfalso; simp only [nxt] at ht a1; omega
      · have e' : k.1 = t := by simp only [nxt] at ht; omega
        simp only [pasR, if_pos e', List.length_cons] at *; omega
set_option maxHeartbeats 1000000 in
theorem jfirst_c (l : List Jp) (v : Value) (w : World) (h : Jw w [] v l) : Calls Tryz.prog 144 #[v] w fun e w' => e = .returned (.int .i64 (nxt l)) ∧ Ext w w' := by
  obtain ⟨A, cap, rfl, hl, hm, hat⟩ := jw_form h
  clear h
  rcases l with _ | ⟨j, r⟩
  · clear hat
    show Calls Tryz.prog 144 #[.slice A 0 cap] w fun e w' => e = .returned (.int .i64 1125899906842624) ∧ Ext w w'
    go_enter Tryz.func144, Tryz.ntmps144
    go_wp2_with fail
    go_returns
    exact ⟨rfl, Ext.refl w⟩
  · obtain ⟨b, o, rfl, -, hb, c0, c1⟩ := hat 0 j rfl
    simp only [Nat.zero_mul, Nat.add_zero] at c0 c1
    obtain ⟨p, n⟩ := j
    have hpos : 0 < r.length + 1 := by omega
    simp only [List.length_cons] at hl ⊢
    have hposI : ¬ ((r.length + 1 : Nat) : Int) = 0 := by omega
    show Calls Tryz.prog 144 #[.slice (some ⟨b, o, none⟩) (r.length + 1) cap] w fun e w' => e = .returned (.int .i64 p) ∧ Ext w w'
    simp only at c0
    clear hat c1
    unfold maxLen at hm
    have hbe : (((r.length : Int) + 1) == 0) = false := by simp; omega
    go_enter Tryz.func144, Tryz.ntmps144
    go_wp2_with fail
    go_returns
    exact ⟨rfl, Ext.refl w⟩
theorem jw_tail {w : World} {S : List Nat} {A : Option Addr} {cap : Nat} {x : Jp} {p : List Jp} (h : Jw w S (.slice A (p.length + 1) cap) (x :: p)) : Jw w S (.slice (cutA A 1 cap 2) p.length (cap - 1)) p := by
  obtain ⟨_, c, e, h1, h2, h3, h4⟩ := id h
  simp only [Value.slice.injEq] at e
  obtain ⟨rfl, -, rfl⟩ := e
  have hc := h.cut 1 (p.length + 1) cap (by omega) (by simp) (by simpa using h1) (Nat.le_refl _)
  rw [sliced_eq, List.take_of_length_le (by rw [ps_length]; simp)] at hc
  exact hc
set_option maxHeartbeats 2000000 in
set_option maxRecDepth 100000 in
theorem pass_c (x : Int) (l : List Jp) (t : Int) (v : Value) (w : World) (hx : -1073741824 ≤ x ∧ x ≤ 1073741824) (hb : ∀ j ∈ l, -1048576 ≤ j.2 ∧ j.2 ≤ 1048576) (ht : t < 1125899906842624) (h : Jw w [] v l) :
    Calls Tryz.prog 145 #[.int .i64 x, v, .int .i64 t] w fun e w' => ∃ v', e = .returned (.tuple #[.int .i64 (x + js (pasL l t)), v']) ∧ (∀ W, Jw W [] v l → Jw W [] v' (pasR l t)) ∧ Ext w w' := by
  have hf := hide (jfirst_c l v w h)
  obtain ⟨A, cap, rfl, hl, hm, hat⟩ := jw_form h
  unfold maxLen at hm
  obtain ⟨x1, x2⟩ := hx
  clear h
  rcases l with _ | ⟨j, r⟩
  · clear hat hb
    have hne : ((1125899906842624 : Int) == t) = false := by simp; omega
    rw [show js (pasL [] t) = 0 from rfl, Int.add_zero, show pasR [] t = [] from rfl]
    rw [show nxt [] = 1125899906842624 from rfl] at hf
    replace ht := hide ht
    go_enter Tryz.func145, Tryz.ntmps145
    go_wp2_with (go_at_call 144; (with_reducible refine seq_gw hf.out ?_); intro g)
    go_returns
    exact ⟨_, rfl, fun W h => h, g.grown⟩
  · obtain ⟨p, n⟩ := j
    rw [show nxt ((p, n) :: r) = p from rfl] at hf
    by_cases hpt : p = t
    · subst hpt
      obtain ⟨n1, n2⟩ := hb (p, n) (by simp)
      simp only at n1 n2
      obtain ⟨b, o, rfl, -, hbl, c0, c1⟩ := hat 0 (p, n) rfl
      simp only [Nat.zero_mul, Nat.add_zero] at c0 c1
      rw [show js (pasL ((p, n) :: r) p) = n by simp [pasL, js], show pasR ((p, n) :: r) p = r by simp [pasR]]
      simp only [List.length_cons] at hl hf ⊢
      haveI : In b w := ⟨hbl⟩
      clear hat hb c0
      go_enter Tryz.func145, Tryz.ntmps145
      go_wp2_with (go_at_call 144; (with_reducible refine seq_gw hf.out ?_); intro g)
      go_quiet (fail)
      go_wp2_with fail
      go_returns
      exact ⟨_, rfl, fun W h => jw_tail h, g.grown.drewN _⟩
    · have hne : (p == t) = false := by simp [hpt]
      rw [show js (pasL ((p, n) :: r) t) = 0 by simp [pasL, js, hpt], Int.add_zero, show pasR ((p, n) :: r) t = (p, n) :: r by simp [pasR, hpt]]
      clear hat hb hpt
      go_enter Tryz.func145, Tryz.ntmps145
      go_wp2_with (go_at_call 144; (with_reducible refine seq_gw hf.out ?_); intro g)
      go_returns
      exact ⟨_, rfl, fun W h => h, g.grown⟩
set_option maxHeartbeats 1000000 in
theorem addOp_c (x y : Int) (hx : -1073741824 ≤ x ∧ x ≤ 1073741824) (hy : -1073741824 ≤ y ∧ y ≤ 1073741824) (w : World) : Calls Tryz.prog 135 #[.int .i64 x, .int .i64 y] w fun e w' => e = .returned (.int .i64 (addO x y)) ∧ Ext w w' := by
  obtain ⟨x1, x2⟩ := hx
  obtain ⟨y1, y2⟩ := hy
  unfold addO
  go_enter Tryz.func135, Tryz.ntmps135
  go_wp2_with fail
  go_returns
  exact ⟨rfl, Ext.refl w⟩
set_option maxHeartbeats 1000000 in
theorem mulOp_c (x y : Int) (hx : -1073741824 ≤ x ∧ x ≤ 1073741824) (hy : -1073741824 ≤ y ∧ y ≤ 1073741824) (w : World) : Calls Tryz.prog 115 #[.int .i64 x, .int .i64 y] w fun e w' => e = .returned (.int .i64 (mulO x y)) ∧ Ext w w' := by
  obtain ⟨z1, z2⟩ := mul_small hx hy
  have hw : IntKind.i64.wrap (x * y) = x * y := by
    generalize x * y = z at *
    simp [IntKind.wrap, IntKind.bits, IntKind.signed]; omega
  unfold mulO
  clear hx hy
  go_enter Tryz.func115, Tryz.ntmps115
  go_wp2_with fail
  go_returns
  exact ⟨by first | rfl | simp [hw], Ext.refl w⟩
set_option maxHeartbeats 1000000 in
theorem whOp_c (x y : Int) (hx : -1073741824 ≤ x ∧ x ≤ 1073741824) (hy : -1073741824 ≤ y ∧ y ≤ 1073741824) (w : World) : Calls Tryz.prog 137 #[.int .i64 x, .int .i64 y] w fun e w' => e = .returned (.int .i64 (whO x y)) ∧ Ext w w' := by
  unfold whO
  by_cases h : y = 0
  · subst h
    rw [if_pos rfl]
    go_enter Tryz.func137, Tryz.ntmps137
    go_wp2_with fail
    go_returns
    exact ⟨rfl, Ext.refl w⟩
  · rw [if_neg h]
    have hy : (y != 0) = true := by simp [h]
    clear h
    go_enter Tryz.func137, Tryz.ntmps137
    go_wp2_with fail
    go_returns
    exact ⟨rfl, Ext.refl w⟩
set_option maxHeartbeats 8000000 in
set_option maxRecDepth 100000 in
theorem combineAdd_c (f g : List Jp) (vf vg : Value) (w : World) (hf : Jw w [] vf f) (hg : Jw w [] vg g) : Calls Tryz.prog 114 #[vf, vg, .func (.func 135) #[] #[]] w fun e w' => ∃ v', e = .returned (.tuple #[v', .int .i64 (twE addO f g)]) ∧ OwnJ w' w.heap.size v' (twR addO f g) ∧ Ext w w' := by
  have hm1 := hide (fun w' (hX : Ext w w') => stepMay_c f vf w' (Sl.ext hf hX))
  have hm2 := hide (fun w' (hX : Ext w w') => stepMay_c g vg w' (Sl.ext hg hX))
  have hX0 := hide (Ext.refl w)
  obtain ⟨A, cap, rfl, hfl, hfm, -⟩ := jw_form hf
  obtain ⟨A2, cap2, rfl, hgl, hgm, -⟩ := jw_form hg
  unfold maxLen at hfm hgm
  obtain ⟨E, hE⟩ : ∃ E, E = twE addO f g := ⟨_, rfl⟩
  obtain ⟨R, hR⟩ : ∃ R, R = twR addO f g := ⟨_, rfl⟩
  rw [← hE, ← hR]
  cases ha : mayJ f
  · have e1 : E = 2 := by rw [hE]; unfold twE; rw [ha]; rfl
    have e2 : R = [] := by rw [hR]; unfold twR; rw [← hE, e1, if_neg (by decide)]
    subst e1
    subst e2
    rw [ha] at hm1
    clear ha hE hR hf hg
    go_enter Tryz.func114, Tryz.ntmps114
    go_wp2_with (go_at_call 54; (with_reducible refine seq_gw (hm1.out _ hX0.out) ?_); intro q)
    go_returns
    exact ⟨_, rfl, World.ownsRow_nil _ _ _ _, q.grown⟩
  cases hb : mayJ g
  · have e1 : E = 2 := by rw [hE]; unfold twE; rw [ha, hb]; rfl
    have e2 : R = [] := by rw [hR]; unfold twR; rw [← hE, e1, if_neg (by decide)]
    subst e1
    subst e2
    rw [ha] at hm1
    rw [hb] at hm2
    clear ha hb hE hR hf hg
    go_enter Tryz.func114, Tryz.ntmps114
    go_wp2_with (first | (go_at_call 54; (with_reducible refine seq_gw (hm1.out _ hX0.out) ?_); intro q) | (go_at_call 54; (with_reducible refine seq_gw' (hm2.out _ q.grown) ?_); intro q2))
    go_returns
    exact ⟨_, rfl, World.ownsRow_nil _ _ _ _, q2.grown⟩
  have hEF : Hid (E = full (opd addO f g)) := by show _ = _; rw [hE]; unfold twE; rw [ha, hb]; rfl
  have hRF : Hid (R = kept (opd addO f g)) := by
    show _ = _
    rw [hR]; unfold twR twE; rw [ha, hb]
    unfold full kept
    cases mayJ (opd addO f g) <;> rfl
  rw [ha] at hm1
  rw [hb] at hm2
  clear hE hR
  replace ha := hide ha
  replace hb := hide hb
  replace hf := hide hf
  replace hg := hide hg
  go_enter Tryz.func114, Tryz.ntmps114
  go_wp2_with (first | (go_at_call 54; (with_reducible refine seq_gw (hm1.out _ hX0.out) ?_); intro q) | (go_at_call 54; (with_reducible refine seq_gw' (hm2.out _ q.grown) ?_); intro q2))
  clear hm1 hm2
  go_loopg [0, 1, 8, 9, 10, 11] (f.length + g.length) (fun gh uf ug um ux uy uv wr => ∃ (f1 f2 g1 g2 made : List Jp) (x y z : Int), Hid (f = f1 ++ f2) ∧ Hid (g = g1 ++ g2) ∧ f2.length + g2.length = gh ∧ Jw w [] uf f2 ∧ Jw w [] ug g2 ∧ OwnJ wr w.heap.size um made ∧ ux = .int .i64 x ∧ uy = .int .i64 y ∧ uv = .int .i64 z ∧ Hid (x = js f1) ∧ Hid (y = js g1) ∧ Hid (z = addO x y) ∧ Hid (Comb addO f1 f2 g1 g2 made) ∧ Ext w wr)
  case atStart => exact ⟨[], f, [], g, [], 0, 0, 0, rfl, rfl, rfl, hf.out, hg.out, World.ownsRow_nil _ _ _ _, rfl, rfl, rfl, rfl, rfl, (by show (0 : Int) = addO 0 0; rfl), Comb.start rfl f g, q2.grown⟩
  case round =>
    obtain ⟨f1, f2, g1, g2, made, x, y, z, ef, eg, hgh, hjf, hjg, ho, rfl, rfl, rfl, hx, hy, hz, hC, hX⟩ := hrel
    have maf : Hid (mayJ (f1 ++ f2) = true) := by show _ = _; rw [← ef.out]; exact ha.out
    have mag : Hid (mayJ (g1 ++ g2) = true) := by show _ = _; rw [← eg.out]; exact hb.out
    have lf1 : f1.length + f2.length ≤ 1024 := by have := mayJ_len maf.out; rw [List.length_append] at this; exact this
    have lg1 : g1.length + g2.length ≤ 1024 := by have := mayJ_len mag.out; rw [List.length_append] at this; exact this
    have lmd : made.length ≤ 2048 := by have := hC.out.len; omega
    obtain ⟨B, bcap, rfl, hbl, hbm, -⟩ := jw_form hjf
    obtain ⟨B2, bcap2, rfl, hbl2, hbm2, -⟩ := jw_form hjg
    unfold maxLen at hbm hbm2
    have hzX := hX.size
    by_cases hend : f2 = [] ∧ g2 = []
    · obtain ⟨rfl, rfl⟩ := hend
      have hdone : made = opd addO f g := by
        have h1 := ef.out
        have h2 := eg.out
        rw [List.append_nil] at h1 h2
        have := hC.out
        rw [← h1, ← h2] at this
        exact this.done rfl ha.out hb.out
      have huf := hide (fun w' (hX : Ext wr w') => unlessFull_c made _ w.heap.size w' (own_ext ho hX))
      have hnow : Hid (E = full made ∧ R = kept made) := ⟨by rw [hdone]; exact hEF.out, by rw [hdone]; exact hRF.out⟩
      clear hdone hx hy hz hC maf mag hEF hRF
      obtain ⟨C, ccap, rfl⟩ := own_form ho
      clear ho
      go_wp2_with (go_at_call 95; refine (huf.out _ (Ext.refl wr)).mono ?_; rintro ee w3 ⟨v3, rfl, ho3, hx3⟩)
      go_returns
      rw [hnow.out.1, hnow.out.2]
      exact ⟨_, rfl, ho3, hX.trans hx3⟩
    · obtain ⟨t, ht⟩ : ∃ t, t = min (nxt f2) (nxt g2) := ⟨_, rfl⟩
      have htF : t < 1125899906842624 := by
        have h1 := nxt_le maf.out
        have h2 := nxt_le mag.out
        by_cases e : f2 = []
        · have h3 := nxt_lt mag.out (fun e2 => hend ⟨e, e2⟩); omega
        · have h3 := nxt_lt maf.out e; omega
      have hstep := hide (hC.out.step maf.out mag.out hend t ht)
      have hmeas := pas_measure maf.out mag.out hend ht
      have hxb : -1073741824 ≤ x ∧ x ≤ 1073741824 := by have := js_pre maf.out; rw [← hx.out] at this; exact this
      have hyb : -1073741824 ≤ y ∧ y ≤ 1073741824 := by have := js_pre mag.out; rw [← hy.out] at this; exact this
      have hf1 := hide (fun w' (h : Ext wr w') => jfirst_c f2 _ w' (Sl.ext hjf (hX.trans h)))
      have hf2 := hide (fun w' (h : Ext wr w') => jfirst_c g2 _ w' (Sl.ext hjg (hX.trans h)))
      have hp1 := hide (fun w' (h : Ext wr w') => pass_c x f2 t _ w' hxb (mayJ_net (mayJ_right maf.out)) htF (Sl.ext hjf (hX.trans h)))
      have hp2 := hide (fun w' (h : Ext wr w') => pass_c y g2 t _ w' hyb (mayJ_net (mayJ_right mag.out)) htF (Sl.ext hjg (hX.trans h)))
      obtain ⟨x', hx'⟩ : ∃ x', x' = x + js (pasL f2 t) := ⟨_, rfl⟩
      obtain ⟨y', hy'⟩ : ∃ y', y' = y + js (pasL g2 t) := ⟨_, rfl⟩
      rw [← hx'] at hp1
      rw [← hy'] at hp2
      have ex : x' = js (f1 ++ pasL f2 t) := by rw [hx', hx.out, js_append]
      have ey : y' = js (g1 ++ pasL g2 t) := by rw [hy', hy.out, js_append]
      have ef' : f = (f1 ++ pasL f2 t) ++ pasR f2 t := by rw [List.append_assoc, pas_eq]; exact ef.out
      have eg' : g = (g1 ++ pasL g2 t) ++ pasR g2 t := by rw [List.append_assoc, pas_eq]; exact eg.out
      have hxb' : -1073741824 ≤ x' ∧ x' ≤ 1073741824 := by rw [ex]; exact js_pre (by rw [← ef']; exact ha.out)
      have hyb' : -1073741824 ≤ y' ∧ y' ≤ 1073741824 := by rw [ey]; exact js_pre (by rw [← eg']; exact hb.out)
      have hop := hide (fun w' => addOp_c x' y' hxb' hyb' w')
      obtain ⟨z1, z2⟩ := (show -1152921504606846976 ≤ z ∧ z ≤ 1152921504606846976 by rw [hz.out]; exact small_add x y hxb hyb)
      obtain ⟨n1, n2⟩ := small_add x' y' hxb' hyb'
      replace hstep := hstep.out
      rw [← ex, ← ey, ← hx.out, ← hy.out, ← hz.out] at hstep
      obtain ⟨nw, hnw⟩ : ∃ nw, nw = addO x' y' := ⟨_, rfl⟩
      rw [← hnw] at hop hstep n1 n2
      obtain ⟨a, haa⟩ : ∃ a, a = nxt f2 := ⟨_, rfl⟩
      obtain ⟨b, hbb⟩ : ∃ b, b = nxt g2 := ⟨_, rfl⟩
      rw [← haa] at hf1 ht
      rw [← hbb] at hf2 ht
      replace ex := hide ex
      replace ey := hide ey
      replace ef' := hide ef'
      replace eg' := hide eg'
      replace hnw := hide hnw
      have hlen : Hid ((0 < f2.length) ∨ (f2.length = 0 ∧ 0 < g2.length)) := by
        show _ ∨ _
        rcases f2 with _ | ⟨j, r⟩
        · rcases g2 with _ | ⟨k, s⟩
          · exact absurd ⟨rfl, rfl⟩ hend
          · right; simp
        · left; simp
      clear haa hbb hx' hy' hx hy hz hC ef eg maf mag hend hxb hyb htF hEF hRF hxb' hyb'
      have hjf' := hide hjf
      have hjg' := hide hjg
      clear hjf hjg
      obtain ⟨fl, hfl2⟩ : ∃ fl, fl = f2.length := ⟨_, rfl⟩
      obtain ⟨gl, hgl2⟩ : ∃ gl, gl = g2.length := ⟨_, rfl⟩
      obtain ⟨C, ccap, rfl⟩ := own_form ho
      replace ho := hide ho
      rw [← hfl2, ← hgl2] at hlen hmeas hgh
      have hjf2 : Hid (∀ W', Ext w W' → Jw W' [] (.slice B fl bcap) f2) := by intro W' h; rw [hfl2]; exact Sl.ext hjf'.out h
      have hjg2 : Hid (∀ W', Ext w W' → Jw W' [] (.slice B2 gl bcap2) g2) := by intro W' h; rw [hgl2]; exact Sl.ext hjg'.out h
      have hjw1 : Hid (Jw w [] (.slice B fl bcap) f2) := by show Jw _ _ _ _; rw [hfl2]; exact hjf'.out
      have hjw2 : Hid (Jw w [] (.slice B2 gl bcap2) g2) := by show Jw _ _ _ _; rw [hgl2]; exact hjg'.out
      rw [← hfl2] at hf1 hp1 hbl ⊢
      rw [← hgl2] at hf2 hp2 hbl2 ⊢
      have flI : (fl : Int) ≤ 1024 := by omega
      have glI : (gl : Int) ≤ 1024 := by omega
      clear hjf' hjg' hfl2 hgl2 lf1 lg1 hjf2 hjg2
      rcases Int.lt_or_le b a with hab | hab
      · have htb : t = b := by omega
        clear ht
        subst htb
        rcases hlen.out with hl | ⟨rfl, hl⟩
        · have hlI : (0 : Int) < fl := by omega
          clear hlen
          by_cases hne : nw = z
          · have hb' : (nw != z) = false := by simp [hne]
            rw [if_pos hne] at hstep
            replace hstep := hide hstep
            replace hne := hide hne
            go_wp2_with (first | (go_at_call 144; (with_reducible refine seq_gw (hf1.out _ (Ext.refl wr)) ?_); intro q1) | (go_at_call 144; (with_reducible refine seq_gw' (hf2.out _ q1.grown) ?_); intro q3) | (go_at_call 145; ((with_reducible refine (hp1.out _ q3.grown).mono ?_); rintro ee w4 ⟨v4, rfl, hv4, hx4⟩)) | (go_at_call 145; ((with_reducible refine (hp2.out _ (q3.grown.trans hx4)).mono ?_); rintro ee w5 ⟨v5, rfl, hv5, hx5⟩)) | (go_at_call 135; (with_reducible refine seq_gw (hop.out _) ?_); intro q6; have hXq := hide (q3.grown.trans (hx4.trans (hx5.trans q6.grown))); have hzq := hXq.out.size))
            go_roundg ((pasR f2 t).length + (pasR g2 t).length)
            case measure => omega
            case rel => exact ⟨f1 ++ pasL f2 t, pasR f2 t, g1 ++ pasL g2 t, pasR g2 t, made, x', y', nw, ef', eg', rfl, hv4 w hjw1.out, hv5 w hjw2.out, own_ext ho.out hXq.out, rfl, rfl, by first | rfl | simp [hne.out], ex, ey, hnw, hstep.out, hX.trans hXq.out⟩
          · have hb' : (nw != z) = true := by simp [hne]
            rw [if_neg hne] at hstep
            replace hstep := hide hstep
            replace hne := hide hne
            go_wp2_with (first | (go_at_call 144; (with_reducible refine seq_gw (hf1.out _ (Ext.refl wr)) ?_); intro q1) | (go_at_call 144; (with_reducible refine seq_gw' (hf2.out _ q1.grown) ?_); intro q3) | (go_at_call 145; ((with_reducible refine (hp1.out _ q3.grown).mono ?_); rintro ee w4 ⟨v4, rfl, hv4, hx4⟩)) | (go_at_call 145; ((with_reducible refine (hp2.out _ (q3.grown.trans hx4)).mono ?_); rintro ee w5 ⟨v5, rfl, hv5, hx5⟩)) | (go_at_call 135; (with_reducible refine seq_gw (hop.out _) ?_); intro q6; have hXq := hide (q3.grown.trans (hx4.trans (hx5.trans q6.grown))); have hzq := hXq.out.size) | (at_builtin; (refine wpl_app tJmp rfl (.tmp 56) (.tmp 62) rfl rfl (own_ext (own_ext ho.out hXq.out) ((Ext.refl q6.val).alloc _)) rfl (src_jmp Tryz.underlying39 q6.val (t, nw - z) _) (by unfold maxLen; omega) (by omega) (by simp only [World.size_alloc]; omega) ?_; intro v7 w7 ho7 hg7 _)))
            go_roundg ((pasR f2 t).length + (pasR g2 t).length)
            case measure => omega
            case rel => exact ⟨f1 ++ pasL f2 t, pasR f2 t, g1 ++ pasL g2 t, pasR g2 t, made ++ [(t, nw - z)], x', y', nw, ef', eg', rfl, hv4 w hjw1.out, hv5 w hjw2.out, own_appJ ho7, rfl, rfl, rfl, ex, ey, hnw, hstep.out, ext_grown (hX.trans (hXq.out.alloc _)) hg7 (fun k hk => (ho.out.lt k hk).1)⟩
        · have hlI : (0 : Int) < gl := by omega
          clear hlen
          by_cases hne : nw = z
          · have hb' : (nw != z) = false := by simp [hne]
            rw [if_pos hne] at hstep
            replace hstep := hide hstep
            replace hne := hide hne
            go_wp2_with (first | (go_at_call 144; (with_reducible refine seq_gw (hf1.out _ (Ext.refl wr)) ?_); intro q1) | (go_at_call 144; (with_reducible refine seq_gw' (hf2.out _ q1.grown) ?_); intro q3) | (go_at_call 145; ((with_reducible refine (hp1.out _ q3.grown).mono ?_); rintro ee w4 ⟨v4, rfl, hv4, hx4⟩)) | (go_at_call 145; ((with_reducible refine (hp2.out _ (q3.grown.trans hx4)).mono ?_); rintro ee w5 ⟨v5, rfl, hv5, hx5⟩)) | (go_at_call 135; (with_reducible refine seq_gw (hop.out _) ?_); intro q6; have hXq := hide (q3.grown.trans (hx4.trans (hx5.trans q6.grown))); have hzq := hXq.out.size))
            go_roundg ((pasR f2 t).length + (pasR g2 t).length)
            case measure => omega
            case rel => exact ⟨f1 ++ pasL f2 t, pasR f2 t, g1 ++ pasL g2 t, pasR g2 t, made, x', y', nw, ef', eg', rfl, hv4 w hjw1.out, hv5 w hjw2.out, own_ext ho.out hXq.out, rfl, rfl, by first | rfl | simp [hne.out], ex, ey, hnw, hstep.out, hX.trans hXq.out⟩
          · have hb' : (nw != z) = true := by simp [hne]
            rw [if_neg hne] at hstep
            replace hstep := hide hstep
            replace hne := hide hne
            go_wp2_with (first | (go_at_call 144; (with_reducible refine seq_gw (hf1.out _ (Ext.refl wr)) ?_); intro q1) | (go_at_call 144; (with_reducible refine seq_gw' (hf2.out _ q1.grown) ?_); intro q3) | (go_at_call 145; ((with_reducible refine (hp1.out _ q3.grown).mono ?_); rintro ee w4 ⟨v4, rfl, hv4, hx4⟩)) | (go_at_call 145; ((with_reducible refine (hp2.out _ (q3.grown.trans hx4)).mono ?_); rintro ee w5 ⟨v5, rfl, hv5, hx5⟩)) | (go_at_call 135; (with_reducible refine seq_gw (hop.out _) ?_); intro q6; have hXq := hide (q3.grown.trans (hx4.trans (hx5.trans q6.grown))); have hzq := hXq.out.size) | (at_builtin; (refine wpl_app tJmp rfl (.tmp 56) (.tmp 62) rfl rfl (own_ext (own_ext ho.out hXq.out) ((Ext.refl q6.val).alloc _)) rfl (src_jmp Tryz.underlying39 q6.val (t, nw - z) _) (by unfold maxLen; omega) (by omega) (by simp only [World.size_alloc]; omega) ?_; intro v7 w7 ho7 hg7 _)))
            go_roundg ((pasR f2 t).length + (pasR g2 t).length)
            case measure => omega
            case rel => exact ⟨f1 ++ pasL f2 t, pasR f2 t, g1 ++ pasL g2 t, pasR g2 t, made ++ [(t, nw - z)], x', y', nw, ef', eg', rfl, hv4 w hjw1.out, hv5 w hjw2.out, own_appJ ho7, rfl, rfl, rfl, ex, ey, hnw, hstep.out, ext_grown (hX.trans (hXq.out.alloc _)) hg7 (fun k hk => (ho.out.lt k hk).1)⟩
      · have htb : t = a := by omega
        clear ht
        subst htb
        rcases hlen.out with hl | ⟨rfl, hl⟩
        · have hlI : (0 : Int) < fl := by omega
          clear hlen
          by_cases hne : nw = z
          · have hb' : (nw != z) = false := by simp [hne]
            rw [if_pos hne] at hstep
            replace hstep := hide hstep
            replace hne := hide hne
            go_wp2_with (first | (go_at_call 144; (with_reducible refine seq_gw (hf1.out _ (Ext.refl wr)) ?_); intro q1) | (go_at_call 144; (with_reducible refine seq_gw' (hf2.out _ q1.grown) ?_); intro q3) | (go_at_call 145; ((with_reducible refine (hp1.out _ q3.grown).mono ?_); rintro ee w4 ⟨v4, rfl, hv4, hx4⟩)) | (go_at_call 145; ((with_reducible refine (hp2.out _ (q3.grown.trans hx4)).mono ?_); rintro ee w5 ⟨v5, rfl, hv5, hx5⟩)) | (go_at_call 135; (with_reducible refine seq_gw (hop.out _) ?_); intro q6; have hXq := hide (q3.grown.trans (hx4.trans (hx5.trans q6.grown))); have hzq := hXq.out.size))
            go_roundg ((pasR f2 t).length + (pasR g2 t).length)
            case measure => omega
            case rel => exact ⟨f1 ++ pasL f2 t, pasR f2 t, g1 ++ pasL g2 t, pasR g2 t, made, x', y', nw, ef', eg', rfl, hv4 w hjw1.out, hv5 w hjw2.out, own_ext ho.out hXq.out, rfl, rfl, by first | rfl | simp [hne.out], ex, ey, hnw, hstep.out, hX.trans hXq.out⟩
          · have hb' : (nw != z) = true := by simp [hne]
            rw [if_neg hne] at hstep
            replace hstep := hide hstep
            replace hne := hide hne
            go_wp2_with (first | (go_at_call 144; (with_reducible refine seq_gw (hf1.out _ (Ext.refl wr)) ?_); intro q1) | (go_at_call 144; (with_reducible refine seq_gw' (hf2.out _ q1.grown) ?_); intro q3) | (go_at_call 145; ((with_reducible refine (hp1.out _ q3.grown).mono ?_); rintro ee w4 ⟨v4, rfl, hv4, hx4⟩)) | (go_at_call 145; ((with_reducible refine (hp2.out _ (q3.grown.trans hx4)).mono ?_); rintro ee w5 ⟨v5, rfl, hv5, hx5⟩)) | (go_at_call 135; (with_reducible refine seq_gw (hop.out _) ?_); intro q6; have hXq := hide (q3.grown.trans (hx4.trans (hx5.trans q6.grown))); have hzq := hXq.out.size) | (at_builtin; (refine wpl_app tJmp rfl (.tmp 56) (.tmp 62) rfl rfl (own_ext (own_ext ho.out hXq.out) ((Ext.refl q6.val).alloc _)) rfl (src_jmp Tryz.underlying39 q6.val (t, nw - z) _) (by unfold maxLen; omega) (by omega) (by simp only [World.size_alloc]; omega) ?_; intro v7 w7 ho7 hg7 _)))
            go_roundg ((pasR f2 t).length + (pasR g2 t).length)
            case measure => omega
            case rel => exact ⟨f1 ++ pasL f2 t, pasR f2 t, g1 ++ pasL g2 t, pasR g2 t, made ++ [(t, nw - z)], x', y', nw, ef', eg', rfl, hv4 w hjw1.out, hv5 w hjw2.out, own_appJ ho7, rfl, rfl, rfl, ex, ey, hnw, hstep.out, ext_grown (hX.trans (hXq.out.alloc _)) hg7 (fun k hk => (ho.out.lt k hk).1)⟩
        · have hlI : (0 : Int) < gl := by omega
          clear hlen
          by_cases hne : nw = z
          · have hb' : (nw != z) = false := by simp [hne]
            rw [if_pos hne] at hstep
            replace hstep := hide hstep
            replace hne := hide hne
            go_wp2_with (first | (go_at_call 144; (with_reducible refine seq_gw (hf1.out _ (Ext.refl wr)) ?_); intro q1) | (go_at_call 144; (with_reducible refine seq_gw' (hf2.out _ q1.grown) ?_); intro q3) | (go_at_call 145; ((with_reducible refine (hp1.out _ q3.grown).mono ?_); rintro ee w4 ⟨v4, rfl, hv4, hx4⟩)) | (go_at_call 145; ((with_reducible refine (hp2.out _ (q3.grown.trans hx4)).mono ?_); rintro ee w5 ⟨v5, rfl, hv5, hx5⟩)) | (go_at_call 135; (with_reducible refine seq_gw (hop.out _) ?_); intro q6; have hXq := hide (q3.grown.trans (hx4.trans (hx5.trans q6.grown))); have hzq := hXq.out.size))
            go_roundg ((pasR f2 t).length + (pasR g2 t).length)
            case measure => omega
            case rel => exact ⟨f1 ++ pasL f2 t, pasR f2 t, g1 ++ pasL g2 t, pasR g2 t, made, x', y', nw, ef', eg', rfl, hv4 w hjw1.out, hv5 w hjw2.out, own_ext ho.out hXq.out, rfl, rfl, by first | rfl | simp [hne.out], ex, ey, hnw, hstep.out, hX.trans hXq.out⟩
          · have hb' : (nw != z) = true := by simp [hne]
            rw [if_neg hne] at hstep
            replace hstep := hide hstep
            replace hne := hide hne
            go_wp2_with (first | (go_at_call 144; (with_reducible refine seq_gw (hf1.out _ (Ext.refl wr)) ?_); intro q1) | (go_at_call 144; (with_reducible refine seq_gw' (hf2.out _ q1.grown) ?_); intro q3) | (go_at_call 145; ((with_reducible refine (hp1.out _ q3.grown).mono ?_); rintro ee w4 ⟨v4, rfl, hv4, hx4⟩)) | (go_at_call 145; ((with_reducible refine (hp2.out _ (q3.grown.trans hx4)).mono ?_); rintro ee w5 ⟨v5, rfl, hv5, hx5⟩)) | (go_at_call 135; (with_reducible refine seq_gw (hop.out _) ?_); intro q6; have hXq := hide (q3.grown.trans (hx4.trans (hx5.trans q6.grown))); have hzq := hXq.out.size) | (at_builtin; (refine wpl_app tJmp rfl (.tmp 56) (.tmp 62) rfl rfl (own_ext (own_ext ho.out hXq.out) ((Ext.refl q6.val).alloc _)) rfl (src_jmp Tryz.underlying39 q6.val (t, nw - z) _) (by unfold maxLen; omega) (by omega) (by simp only [World.size_alloc]; omega) ?_; intro v7 w7 ho7 hg7 _)))
            go_roundg ((pasR f2 t).length + (pasR g2 t).length)
            case measure => omega
            case rel => exact ⟨f1 ++ pasL f2 t, pasR f2 t, g1 ++ pasL g2 t, pasR g2 t, made ++ [(t, nw - z)], x', y', nw, ef', eg', rfl, hv4 w hjw1.out, hv5 w hjw2.out, own_appJ ho7, rfl, rfl, rfl, ex, ey, hnw, hstep.out, ext_grown (hX.trans (hXq.out.alloc _)) hg7 (fun k hk => (ho.out.lt k hk).1)⟩
set_option maxHeartbeats 1000000 in
theorem stepAdd_c (l g : List Jp) (vf vg : Value) (w : World) (hf : Jw w [] vf l) (hg : Jw w [] vg g) : Calls Tryz.prog 102 #[vf, vg] w fun e w' => ∃ v', e = .returned (.tuple #[v', .int .i64 (twE addO l g)]) ∧ OwnJ w' w.heap.size v' (twR addO l g) ∧ Ext w w' := by
  have hc := hide (combineAdd_c l g vf vg w hf hg)
  generalize twE addO l g = E at *
  generalize twR addO l g = R at *
  clear hf hg
  go_enter Tryz.func102, Tryz.ntmps102
  go_wp2_with (go_at_call 114; refine hc.out.mono ?_; rintro ee w3 ⟨v3, rfl, ho3, hx3⟩)
  go_returns
  exact ⟨_, rfl, ho3, hx3⟩
set_option maxHeartbeats 8000000 in
set_option maxRecDepth 100000 in
theorem combineMul_c (f g : List Jp) (vf vg : Value) (w : World) (hf : Jw w [] vf f) (hg : Jw w [] vg g) : Calls Tryz.prog 114 #[vf, vg, .func (.func 115) #[] #[]] w fun e w' => ∃ v', e = .returned (.tuple #[v', .int .i64 (twE mulO f g)]) ∧ OwnJ w' w.heap.size v' (twR mulO f g) ∧ Ext w w' := by
  have hm1 := hide (fun w' (hX : Ext w w') => stepMay_c f vf w' (Sl.ext hf hX))
  have hm2 := hide (fun w' (hX : Ext w w') => stepMay_c g vg w' (Sl.ext hg hX))
  have hX0 := hide (Ext.refl w)
  obtain ⟨A, cap, rfl, hfl, hfm, -⟩ := jw_form hf
  obtain ⟨A2, cap2, rfl, hgl, hgm, -⟩ := jw_form hg
  unfold maxLen at hfm hgm
  obtain ⟨E, hE⟩ : ∃ E, E = twE mulO f g := ⟨_, rfl⟩
  obtain ⟨R, hR⟩ : ∃ R, R = twR mulO f g := ⟨_, rfl⟩
  rw [← hE, ← hR]
  cases ha : mayJ f
  · have e1 : E = 2 := by rw [hE]; unfold twE; rw [ha]; rfl
    have e2 : R = [] := by rw [hR]; unfold twR; rw [← hE, e1, if_neg (by decide)]
    subst e1
    subst e2
    rw [ha] at hm1
    clear ha hE hR hf hg
    go_enter Tryz.func114, Tryz.ntmps114
    go_wp2_with (go_at_call 54; (with_reducible refine seq_gw (hm1.out _ hX0.out) ?_); intro q)
    go_returns
    exact ⟨_, rfl, World.ownsRow_nil _ _ _ _, q.grown⟩
  cases hb : mayJ g
  · have e1 : E = 2 := by rw [hE]; unfold twE; rw [ha, hb]; rfl
    have e2 : R = [] := by rw [hR]; unfold twR; rw [← hE, e1, if_neg (by decide)]
    subst e1
    subst e2
    rw [ha] at hm1
    rw [hb] at hm2
    clear ha hb hE hR hf hg
    go_enter Tryz.func114, Tryz.ntmps114
    go_wp2_with (first | (go_at_call 54; (with_reducible refine seq_gw (hm1.out _ hX0.out) ?_); intro q) | (go_at_call 54; (with_reducible refine seq_gw' (hm2.out _ q.grown) ?_); intro q2))
    go_returns
    exact ⟨_, rfl, World.ownsRow_nil _ _ _ _, q2.grown⟩
  have hEF : Hid (E = full (opd mulO f g)) := by show _ = _; rw [hE]; unfold twE; rw [ha, hb]; rfl
  have hRF : Hid (R = kept (opd mulO f g)) := by
    show _ = _
    rw [hR]; unfold twR twE; rw [ha, hb]
    unfold full kept
    cases mayJ (opd mulO f g) <;> rfl
  rw [ha] at hm1
  rw [hb] at hm2
  clear hE hR
  replace ha := hide ha
  replace hb := hide hb
  replace hf := hide hf
  replace hg := hide hg
  go_enter Tryz.func114, Tryz.ntmps114
  go_wp2_with (first | (go_at_call 54; (with_reducible refine seq_gw (hm1.out _ hX0.out) ?_); intro q) | (go_at_call 54; (with_reducible refine seq_gw' (hm2.out _ q.grown) ?_); intro q2))
  clear hm1 hm2
  go_loopg [0, 1, 8, 9, 10, 11] (f.length + g.length) (fun gh uf ug um ux uy uv wr => ∃ (f1 f2 g1 g2 made : List Jp) (x y z : Int), Hid (f = f1 ++ f2) ∧ Hid (g = g1 ++ g2) ∧ f2.length + g2.length = gh ∧ Jw w [] uf f2 ∧ Jw w [] ug g2 ∧ OwnJ wr w.heap.size um made ∧ ux = .int .i64 x ∧ uy = .int .i64 y ∧ uv = .int .i64 z ∧ Hid (x = js f1) ∧ Hid (y = js g1) ∧ Hid (z = mulO x y) ∧ Hid (Comb mulO f1 f2 g1 g2 made) ∧ Ext w wr)
  case atStart => exact ⟨[], f, [], g, [], 0, 0, 0, rfl, rfl, rfl, hf.out, hg.out, World.ownsRow_nil _ _ _ _, rfl, rfl, rfl, rfl, rfl, (by show (0 : Int) = mulO 0 0; rfl), Comb.start rfl f g, q2.grown⟩
  case round =>
    obtain ⟨f1, f2, g1, g2, made, x, y, z, ef, eg, hgh, hjf, hjg, ho, rfl, rfl, rfl, hx, hy, hz, hC, hX⟩ := hrel
    have maf : Hid (mayJ (f1 ++ f2) = true) := by show _ = _; rw [← ef.out]; exact ha.out
    have mag : Hid (mayJ (g1 ++ g2) = true) := by show _ = _; rw [← eg.out]; exact hb.out
    have lf1 : f1.length + f2.length ≤ 1024 := by have := mayJ_len maf.out; rw [List.length_append] at this; exact this
    have lg1 : g1.length + g2.length ≤ 1024 := by have := mayJ_len mag.out; rw [List.length_append] at this; exact this
    have lmd : made.length ≤ 2048 := by have := hC.out.len; omega
    obtain ⟨B, bcap, rfl, hbl, hbm, -⟩ := jw_form hjf
    obtain ⟨B2, bcap2, rfl, hbl2, hbm2, -⟩ := jw_form hjg
    unfold maxLen at hbm hbm2
    have hzX := hX.size
    by_cases hend : f2 = [] ∧ g2 = []
    · obtain ⟨rfl, rfl⟩ := hend
      have hdone : made = opd mulO f g := by
        have h1 := ef.out
        have h2 := eg.out
        rw [List.append_nil] at h1 h2
        have := hC.out
        rw [← h1, ← h2] at this
        exact this.done rfl ha.out hb.out
      have huf := hide (fun w' (hX : Ext wr w') => unlessFull_c made _ w.heap.size w' (own_ext ho hX))
      have hnow : Hid (E = full made ∧ R = kept made) := ⟨by rw [hdone]; exact hEF.out, by rw [hdone]; exact hRF.out⟩
      clear hdone hx hy hz hC maf mag hEF hRF
      obtain ⟨C, ccap, rfl⟩ := own_form ho
      clear ho
      go_wp2_with (go_at_call 95; refine (huf.out _ (Ext.refl wr)).mono ?_; rintro ee w3 ⟨v3, rfl, ho3, hx3⟩)
      go_returns
      rw [hnow.out.1, hnow.out.2]
      exact ⟨_, rfl, ho3, hX.trans hx3⟩
    · obtain ⟨t, ht⟩ : ∃ t, t = min (nxt f2) (nxt g2) := ⟨_, rfl⟩
      have htF : t < 1125899906842624 := by
        have h1 := nxt_le maf.out
        have h2 := nxt_le mag.out
        by_cases e : f2 = []
        · have h3 := nxt_lt mag.out (fun e2 => hend ⟨e, e2⟩); omega
        · have h3 := nxt_lt maf.out e; omega
      have hstep := hide (hC.out.step maf.out mag.out hend t ht)
      have hmeas := pas_measure maf.out mag.out hend ht
      have hxb : -1073741824 ≤ x ∧ x ≤ 1073741824 := by have := js_pre maf.out; rw [← hx.out] at this; exact this
      have hyb : -1073741824 ≤ y ∧ y ≤ 1073741824 := by have := js_pre mag.out; rw [← hy.out] at this; exact this
      have hf1 := hide (fun w' (h : Ext wr w') => jfirst_c f2 _ w' (Sl.ext hjf (hX.trans h)))
      have hf2 := hide (fun w' (h : Ext wr w') => jfirst_c g2 _ w' (Sl.ext hjg (hX.trans h)))
      have hp1 := hide (fun w' (h : Ext wr w') => pass_c x f2 t _ w' hxb (mayJ_net (mayJ_right maf.out)) htF (Sl.ext hjf (hX.trans h)))
      have hp2 := hide (fun w' (h : Ext wr w') => pass_c y g2 t _ w' hyb (mayJ_net (mayJ_right mag.out)) htF (Sl.ext hjg (hX.trans h)))
      obtain ⟨x', hx'⟩ : ∃ x', x' = x + js (pasL f2 t) := ⟨_, rfl⟩
      obtain ⟨y', hy'⟩ : ∃ y', y' = y + js (pasL g2 t) := ⟨_, rfl⟩
      rw [← hx'] at hp1
      rw [← hy'] at hp2
      have ex : x' = js (f1 ++ pasL f2 t) := by rw [hx', hx.out, js_append]
      have ey : y' = js (g1 ++ pasL g2 t) := by rw [hy', hy.out, js_append]
      have ef' : f = (f1 ++ pasL f2 t) ++ pasR f2 t := by rw [List.append_assoc, pas_eq]; exact ef.out
      have eg' : g = (g1 ++ pasL g2 t) ++ pasR g2 t := by rw [List.append_assoc, pas_eq]; exact eg.out
      have hxb' : -1073741824 ≤ x' ∧ x' ≤ 1073741824 := by rw [ex]; exact js_pre (by rw [← ef']; exact ha.out)
      have hyb' : -1073741824 ≤ y' ∧ y' ≤ 1073741824 := by rw [ey]; exact js_pre (by rw [← eg']; exact hb.out)
      have hop := hide (fun w' => mulOp_c x' y' hxb' hyb' w')
      obtain ⟨z1, z2⟩ := (show -1152921504606846976 ≤ z ∧ z ≤ 1152921504606846976 by rw [hz.out]; exact small_mul x y hxb hyb)
      obtain ⟨n1, n2⟩ := small_mul x' y' hxb' hyb'
      replace hstep := hstep.out
      rw [← ex, ← ey, ← hx.out, ← hy.out, ← hz.out] at hstep
      obtain ⟨nw, hnw⟩ : ∃ nw, nw = mulO x' y' := ⟨_, rfl⟩
      rw [← hnw] at hop hstep n1 n2
      obtain ⟨a, haa⟩ : ∃ a, a = nxt f2 := ⟨_, rfl⟩
      obtain ⟨b, hbb⟩ : ∃ b, b = nxt g2 := ⟨_, rfl⟩
      rw [← haa] at hf1 ht
      rw [← hbb] at hf2 ht
      replace ex := hide ex
      replace ey := hide ey
      replace ef' := hide ef'
      replace eg' := hide eg'
      replace hnw := hide hnw
      have hlen : Hid ((0 < f2.length) ∨ (f2.length = 0 ∧ 0 < g2.length)) := by
        show _ ∨ _
        rcases f2 with _ | ⟨j, r⟩
        · rcases g2 with _ | ⟨k, s⟩
          · exact absurd ⟨rfl, rfl⟩ hend
          · right; simp
        · left; simp
      clear haa hbb hx' hy' hx hy hz hC ef eg maf mag hend hxb hyb htF hEF hRF hxb' hyb'
      have hjf' := hide hjf
      have hjg' := hide hjg
      clear hjf hjg
      obtain ⟨fl, hfl2⟩ : ∃ fl, fl = f2.length := ⟨_, rfl⟩
      obtain ⟨gl, hgl2⟩ : ∃ gl, gl = g2.length := ⟨_, rfl⟩
      obtain ⟨C, ccap, rfl⟩ := own_form ho
      replace ho := hide ho
      rw [← hfl2, ← hgl2] at hlen hmeas hgh
      have hjf2 : Hid (∀ W', Ext w W' → Jw W' [] (.slice B fl bcap) f2) := by intro W' h; rw [hfl2]; exact Sl.ext hjf'.out h
      have hjg2 : Hid (∀ W', Ext w W' → Jw W' [] (.slice B2 gl bcap2) g2) := by intro W' h; rw [hgl2]; exact Sl.ext hjg'.out h
      have hjw1 : Hid (Jw w [] (.slice B fl bcap) f2) := by show Jw _ _ _ _; rw [hfl2]; exact hjf'.out
      have hjw2 : Hid (Jw w [] (.slice B2 gl bcap2) g2) := by show Jw _ _ _ _; rw [hgl2]; exact hjg'.out
      rw [← hfl2] at hf1 hp1 hbl ⊢
      rw [← hgl2] at hf2 hp2 hbl2 ⊢
      have flI : (fl : Int) ≤ 1024 := by omega
      have glI : (gl : Int) ≤ 1024 := by omega
      clear hjf' hjg' hfl2 hgl2 lf1 lg1 hjf2 hjg2
      rcases Int.lt_or_le b a with hab | hab
      · have htb : t = b := by omega
        clear ht
        subst htb
        rcases hlen.out with hl | ⟨rfl, hl⟩
        · have hlI : (0 : Int) < fl := by omega
          clear hlen
          by_cases hne : nw = z
          · have hb' : (nw != z) = false := by simp [hne]
            rw [if_pos hne] at hstep
            replace hstep := hide hstep
            replace hne := hide hne
            go_wp2_with (first | (go_at_call 144; (with_reducible refine seq_gw (hf1.out _ (Ext.refl wr)) ?_); intro q1) | (go_at_call 144; (with_reducible refine seq_gw' (hf2.out _ q1.grown) ?_); intro q3) | (go_at_call 145; ((with_reducible refine (hp1.out _ q3.grown).mono ?_); rintro ee w4 ⟨v4, rfl, hv4, hx4⟩)) | (go_at_call 145; ((with_reducible refine (hp2.out _ (q3.grown.trans hx4)).mono ?_); rintro ee w5 ⟨v5, rfl, hv5, hx5⟩)) | (go_at_call 115; (with_reducible refine seq_gw (hop.out _) ?_); intro q6; have hXq := hide (q3.grown.trans (hx4.trans (hx5.trans q6.grown))); have hzq := hXq.out.size))
            go_roundg ((pasR f2 t).length + (pasR g2 t).length)
            case measure => omega
            case rel => exact ⟨f1 ++ pasL f2 t, pasR f2 t, g1 ++ pasL g2 t, pasR g2 t, made, x', y', nw, ef', eg', rfl, hv4 w hjw1.out, hv5 w hjw2.out, own_ext ho.out hXq.out, rfl, rfl, by first | rfl | simp [hne.out], ex, ey, hnw, hstep.out, hX.trans hXq.out⟩
          · have hb' : (nw != z) = true := by simp [hne]
            rw [if_neg hne] at hstep
            replace hstep := hide hstep
            replace hne := hide hne
            go_wp2_with (first | (go_at_call 144; (with_reducible refine seq_gw (hf1.out _ (Ext.refl wr)) ?_); intro q1) | (go_at_call 144; (with_reducible refine seq_gw' (hf2.out _ q1.grown) ?_); intro q3) | (go_at_call 145; ((with_reducible refine (hp1.out _ q3.grown).mono ?_); rintro ee w4 ⟨v4, rfl, hv4, hx4⟩)) | (go_at_call 145; ((with_reducible refine (hp2.out _ (q3.grown.trans hx4)).mono ?_); rintro ee w5 ⟨v5, rfl, hv5, hx5⟩)) | (go_at_call 115; (with_reducible refine seq_gw (hop.out _) ?_); intro q6; have hXq := hide (q3.grown.trans (hx4.trans (hx5.trans q6.grown))); have hzq := hXq.out.size) | (at_builtin; (refine wpl_app tJmp rfl (.tmp 56) (.tmp 62) rfl rfl (own_ext (own_ext ho.out hXq.out) ((Ext.refl q6.val).alloc _)) rfl (src_jmp Tryz.underlying39 q6.val (t, nw - z) _) (by unfold maxLen; omega) (by omega) (by simp only [World.size_alloc]; omega) ?_; intro v7 w7 ho7 hg7 _)))
            go_roundg ((pasR f2 t).length + (pasR g2 t).length)
            case measure => omega
            case rel => exact ⟨f1 ++ pasL f2 t, pasR f2 t, g1 ++ pasL g2 t, pasR g2 t, made ++ [(t, nw - z)], x', y', nw, ef', eg', rfl, hv4 w hjw1.out, hv5 w hjw2.out, own_appJ ho7, rfl, rfl, rfl, ex, ey, hnw, hstep.out, ext_grown (hX.trans (hXq.out.alloc _)) hg7 (fun k hk => (ho.out.lt k hk).1)⟩
        · have hlI : (0 : Int) < gl := by omega
          clear hlen
          by_cases hne : nw = z
          · have hb' : (nw != z) = false := by simp [hne]
            rw [if_pos hne] at hstep
            replace hstep := hide hstep
            replace hne := hide hne
            go_wp2_with (first | (go_at_call 144; (with_reducible refine seq_gw (hf1.out _ (Ext.refl wr)) ?_); intro q1) | (go_at_call 144; (with_reducible refine seq_gw' (hf2.out _ q1.grown) ?_); intro q3) | (go_at_call 145; ((with_reducible refine (hp1.out _ q3.grown).mono ?_); rintro ee w4 ⟨v4, rfl, hv4, hx4⟩)) | (go_at_call 145; ((with_reducible refine (hp2.out _ (q3.grown.trans hx4)).mono ?_); rintro ee w5 ⟨v5, rfl, hv5, hx5⟩)) | (go_at_call 115; (with_reducible refine seq_gw (hop.out _) ?_); intro q6; have hXq := hide (q3.grown.trans (hx4.trans (hx5.trans q6.grown))); have hzq := hXq.out.size))
            go_roundg ((pasR f2 t).length + (pasR g2 t).length)
            case measure => omega
            case rel => exact ⟨f1 ++ pasL f2 t, pasR f2 t, g1 ++ pasL g2 t, pasR g2 t, made, x', y', nw, ef', eg', rfl, hv4 w hjw1.out, hv5 w hjw2.out, own_ext ho.out hXq.out, rfl, rfl, by first | rfl | simp [hne.out], ex, ey, hnw, hstep.out, hX.trans hXq.out⟩
          · have hb' : (nw != z) = true := by simp [hne]
            rw [if_neg hne] at hstep
            replace hstep := hide hstep
            replace hne := hide hne
            go_wp2_with (first | (go_at_call 144; (with_reducible refine seq_gw (hf1.out _ (Ext.refl wr)) ?_); intro q1) | (go_at_call 144; (with_reducible refine seq_gw' (hf2.out _ q1.grown) ?_); intro q3) | (go_at_call 145; ((with_reducible refine (hp1.out _ q3.grown).mono ?_); rintro ee w4 ⟨v4, rfl, hv4, hx4⟩)) | (go_at_call 145; ((with_reducible refine (hp2.out _ (q3.grown.trans hx4)).mono ?_); rintro ee w5 ⟨v5, rfl, hv5, hx5⟩)) | (go_at_call 115; (with_reducible refine seq_gw (hop.out _) ?_); intro q6; have hXq := hide (q3.grown.trans (hx4.trans (hx5.trans q6.grown))); have hzq := hXq.out.size) | (at_builtin; (refine wpl_app tJmp rfl (.tmp 56) (.tmp 62) rfl rfl (own_ext (own_ext ho.out hXq.out) ((Ext.refl q6.val).alloc _)) rfl (src_jmp Tryz.underlying39 q6.val (t, nw - z) _) (by unfold maxLen; omega) (by omega) (by simp only [World.size_alloc]; omega) ?_; intro v7 w7 ho7 hg7 _)))
            go_roundg ((pasR f2 t).length + (pasR g2 t).length)
            case measure => omega
            case rel => exact ⟨f1 ++ pasL f2 t, pasR f2 t, g1 ++ pasL g2 t, pasR g2 t, made ++ [(t, nw - z)], x', y', nw, ef', eg', rfl, hv4 w hjw1.out, hv5 w hjw2.out, own_appJ ho7, rfl, rfl, rfl, ex, ey, hnw, hstep.out, ext_grown (hX.trans (hXq.out.alloc _)) hg7 (fun k hk => (ho.out.lt k hk).1)⟩
      · have htb : t = a := by omega
        clear ht
        subst htb
        rcases hlen.out with hl | ⟨rfl, hl⟩
        · have hlI : (0 : Int) < fl := by omega
          clear hlen
          by_cases hne : nw = z
          · have hb' : (nw != z) = false := by simp [hne]
            rw [if_pos hne] at hstep
            replace hstep := hide hstep
            replace hne := hide hne
            go_wp2_with (first | (go_at_call 144; (with_reducible refine seq_gw (hf1.out _ (Ext.refl wr)) ?_); intro q1) | (go_at_call 144; (with_reducible refine seq_gw' (hf2.out _ q1.grown) ?_); intro q3) | (go_at_call 145; ((with_reducible refine (hp1.out _ q3.grown).mono ?_); rintro ee w4 ⟨v4, rfl, hv4, hx4⟩)) | (go_at_call 145; ((with_reducible refine (hp2.out _ (q3.grown.trans hx4)).mono ?_); rintro ee w5 ⟨v5, rfl, hv5, hx5⟩)) | (go_at_call 115; (with_reducible refine seq_gw (hop.out _) ?_); intro q6; have hXq := hide (q3.grown.trans (hx4.trans (hx5.trans q6.grown))); have hzq := hXq.out.size))
            go_roundg ((pasR f2 t).length + (pasR g2 t).length)
            case measure => omega
            case rel => exact ⟨f1 ++ pasL f2 t, pasR f2 t, g1 ++ pasL g2 t, pasR g2 t, made, x', y', nw, ef', eg', rfl, hv4 w hjw1.out, hv5 w hjw2.out, own_ext ho.out hXq.out, rfl, rfl, by first | rfl | simp [hne.out], ex, ey, hnw, hstep.out, hX.trans hXq.out⟩
          · have hb' : (nw != z) = true := by simp [hne]
            rw [if_neg hne] at hstep
            replace hstep := hide hstep
            replace hne := hide hne
            go_wp2_with (first | (go_at_call 144; (with_reducible refine seq_gw (hf1.out _ (Ext.refl wr)) ?_); intro q1) | (go_at_call 144; (with_reducible refine seq_gw' (hf2.out _ q1.grown) ?_); intro q3) | (go_at_call 145; ((with_reducible refine (hp1.out _ q3.grown).mono ?_); rintro ee w4 ⟨v4, rfl, hv4, hx4⟩)) | (go_at_call 145; ((with_reducible refine (hp2.out _ (q3.grown.trans hx4)).mono ?_); rintro ee w5 ⟨v5, rfl, hv5, hx5⟩)) | (go_at_call 115; (with_reducible refine seq_gw (hop.out _) ?_); intro q6; have hXq := hide (q3.grown.trans (hx4.trans (hx5.trans q6.grown))); have hzq := hXq.out.size) | (at_builtin; (refine wpl_app tJmp rfl (.tmp 56) (.tmp 62) rfl rfl (own_ext (own_ext ho.out hXq.out) ((Ext.refl q6.val).alloc _)) rfl (src_jmp Tryz.underlying39 q6.val (t, nw - z) _) (by unfold maxLen; omega) (by omega) (by simp only [World.size_alloc]; omega) ?_; intro v7 w7 ho7 hg7 _)))
            go_roundg ((pasR f2 t).length + (pasR g2 t).length)
            case measure => omega
            case rel => exact ⟨f1 ++ pasL f2 t, pasR f2 t, g1 ++ pasL g2 t, pasR g2 t, made ++ [(t, nw - z)], x', y', nw, ef', eg', rfl, hv4 w hjw1.out, hv5 w hjw2.out, own_appJ ho7, rfl, rfl, rfl, ex, ey, hnw, hstep.out, ext_grown (hX.trans (hXq.out.alloc _)) hg7 (fun k hk => (ho.out.lt k hk).1)⟩
        · have hlI : (0 : Int) < gl := by omega
          clear hlen
          by_cases hne : nw = z
          · have hb' : (nw != z) = false := by simp [hne]
            rw [if_pos hne] at hstep
            replace hstep := hide hstep
            replace hne := hide hne
            go_wp2_with (first | (go_at_call 144; (with_reducible refine seq_gw (hf1.out _ (Ext.refl wr)) ?_); intro q1) | (go_at_call 144; (with_reducible refine seq_gw' (hf2.out _ q1.grown) ?_); intro q3) | (go_at_call 145; ((with_reducible refine (hp1.out _ q3.grown).mono ?_); rintro ee w4 ⟨v4, rfl, hv4, hx4⟩)) | (go_at_call 145; ((with_reducible refine (hp2.out _ (q3.grown.trans hx4)).mono ?_); rintro ee w5 ⟨v5, rfl, hv5, hx5⟩)) | (go_at_call 115; (with_reducible refine seq_gw (hop.out _) ?_); intro q6; have hXq := hide (q3.grown.trans (hx4.trans (hx5.trans q6.grown))); have hzq := hXq.out.size))
            go_roundg ((pasR f2 t).length + (pasR g2 t).length)
            case measure => omega
            case rel => exact ⟨f1 ++ pasL f2 t, pasR f2 t, g1 ++ pasL g2 t, pasR g2 t, made, x', y', nw, ef', eg', rfl, hv4 w hjw1.out, hv5 w hjw2.out, own_ext ho.out hXq.out, rfl, rfl, by first | rfl | simp [hne.out], ex, ey, hnw, hstep.out, hX.trans hXq.out⟩
          · have hb' : (nw != z) = true := by simp [hne]
            rw [if_neg hne] at hstep
            replace hstep := hide hstep
            replace hne := hide hne
            go_wp2_with (first | (go_at_call 144; (with_reducible refine seq_gw (hf1.out _ (Ext.refl wr)) ?_); intro q1) | (go_at_call 144; (with_reducible refine seq_gw' (hf2.out _ q1.grown) ?_); intro q3) | (go_at_call 145; ((with_reducible refine (hp1.out _ q3.grown).mono ?_); rintro ee w4 ⟨v4, rfl, hv4, hx4⟩)) | (go_at_call 145; ((with_reducible refine (hp2.out _ (q3.grown.trans hx4)).mono ?_); rintro ee w5 ⟨v5, rfl, hv5, hx5⟩)) | (go_at_call 115; (with_reducible refine seq_gw (hop.out _) ?_); intro q6; have hXq := hide (q3.grown.trans (hx4.trans (hx5.trans q6.grown))); have hzq := hXq.out.size) | (at_builtin; (refine wpl_app tJmp rfl (.tmp 56) (.tmp 62) rfl rfl (own_ext (own_ext ho.out hXq.out) ((Ext.refl q6.val).alloc _)) rfl (src_jmp Tryz.underlying39 q6.val (t, nw - z) _) (by unfold maxLen; omega) (by omega) (by simp only [World.size_alloc]; omega) ?_; intro v7 w7 ho7 hg7 _)))
            go_roundg ((pasR f2 t).length + (pasR g2 t).length)
            case measure => omega
            case rel => exact ⟨f1 ++ pasL f2 t, pasR f2 t, g1 ++ pasL g2 t, pasR g2 t, made ++ [(t, nw - z)], x', y', nw, ef', eg', rfl, hv4 w hjw1.out, hv5 w hjw2.out, own_appJ ho7, rfl, rfl, rfl, ex, ey, hnw, hstep.out, ext_grown (hX.trans (hXq.out.alloc _)) hg7 (fun k hk => (ho.out.lt k hk).1)⟩
set_option maxHeartbeats 1000000 in
theorem stepMul_c (l g : List Jp) (vf vg : Value) (w : World) (hf : Jw w [] vf l) (hg : Jw w [] vg g) : Calls Tryz.prog 70 #[vf, vg] w fun e w' => ∃ v', e = .returned (.tuple #[v', .int .i64 (twE mulO l g)]) ∧ OwnJ w' w.heap.size v' (twR mulO l g) ∧ Ext w w' := by
  have hc := hide (combineMul_c l g vf vg w hf hg)
  generalize twE mulO l g = E at *
  generalize twR mulO l g = R at *
  clear hf hg
  go_enter Tryz.func70, Tryz.ntmps70
  go_wp2_with (go_at_call 114; refine hc.out.mono ?_; rintro ee w3 ⟨v3, rfl, ho3, hx3⟩)
  go_returns
  exact ⟨_, rfl, ho3, hx3⟩
set_option maxHeartbeats 8000000 in
set_option maxRecDepth 100000 in
theorem combineWh_c (f g : List Jp) (vf vg : Value) (w : World) (hf : Jw w [] vf f) (hg : Jw w [] vg g) : Calls Tryz.prog 114 #[vf, vg, .func (.func 137) #[] #[]] w fun e w' => ∃ v', e = .returned (.tuple #[v', .int .i64 (twE whO f g)]) ∧ OwnJ w' w.heap.size v' (twR whO f g) ∧ Ext w w' := by
  have hm1 := hide (fun w' (hX : Ext w w') => stepMay_c f vf w' (Sl.ext hf hX))
  have hm2 := hide (fun w' (hX : Ext w w') => stepMay_c g vg w' (Sl.ext hg hX))
  have hX0 := hide (Ext.refl w)
  obtain ⟨A, cap, rfl, hfl, hfm, -⟩ := jw_form hf
  obtain ⟨A2, cap2, rfl, hgl, hgm, -⟩ := jw_form hg
  unfold maxLen at hfm hgm
  obtain ⟨E, hE⟩ : ∃ E, E = twE whO f g := ⟨_, rfl⟩
  obtain ⟨R, hR⟩ : ∃ R, R = twR whO f g := ⟨_, rfl⟩
  rw [← hE, ← hR]
  cases ha : mayJ f
  · have e1 : E = 2 := by rw [hE]; unfold twE; rw [ha]; rfl
    have e2 : R = [] := by rw [hR]; unfold twR; rw [← hE, e1, if_neg (by decide)]
    subst e1
    subst e2
    rw [ha] at hm1
    clear ha hE hR hf hg
    go_enter Tryz.func114, Tryz.ntmps114
    go_wp2_with (go_at_call 54; (with_reducible refine seq_gw (hm1.out _ hX0.out) ?_); intro q)
    go_returns
    exact ⟨_, rfl, World.ownsRow_nil _ _ _ _, q.grown⟩
  cases hb : mayJ g
  · have e1 : E = 2 := by rw [hE]; unfold twE; rw [ha, hb]; rfl
    have e2 : R = [] := by rw [hR]; unfold twR; rw [← hE, e1, if_neg (by decide)]
    subst e1
    subst e2
    rw [ha] at hm1
    rw [hb] at hm2
    clear ha hb hE hR hf hg
    go_enter Tryz.func114, Tryz.ntmps114
    go_wp2_with (first | (go_at_call 54; (with_reducible refine seq_gw (hm1.out _ hX0.out) ?_); intro q) | (go_at_call 54; (with_reducible refine seq_gw' (hm2.out _ q.grown) ?_); intro q2))
    go_returns
    exact ⟨_, rfl, World.ownsRow_nil _ _ _ _, q2.grown⟩
  have hEF : Hid (E = full (opd whO f g)) := by show _ = _; rw [hE]; unfold twE; rw [ha, hb]; rfl
  have hRF : Hid (R = kept (opd whO f g)) := by
    show _ = _
    rw [hR]; unfold twR twE; rw [ha, hb]
    unfold full kept
    cases mayJ (opd whO f g) <;> rfl
  rw [ha] at hm1
  rw [hb] at hm2
  clear hE hR
  replace ha := hide ha
  replace hb := hide hb
  replace hf := hide hf
  replace hg := hide hg
  go_enter Tryz.func114, Tryz.ntmps114
  go_wp2_with (first | (go_at_call 54; (with_reducible refine seq_gw (hm1.out _ hX0.out) ?_); intro q) | (go_at_call 54; (with_reducible refine seq_gw' (hm2.out _ q.grown) ?_); intro q2))
  clear hm1 hm2
  go_loopg [0, 1, 8, 9, 10, 11] (f.length + g.length) (fun gh uf ug um ux uy uv wr => ∃ (f1 f2 g1 g2 made : List Jp) (x y z : Int), Hid (f = f1 ++ f2) ∧ Hid (g = g1 ++ g2) ∧ f2.length + g2.length = gh ∧ Jw w [] uf f2 ∧ Jw w [] ug g2 ∧ OwnJ wr w.heap.size um made ∧ ux = .int .i64 x ∧ uy = .int .i64 y ∧ uv = .int .i64 z ∧ Hid (x = js f1) ∧ Hid (y = js g1) ∧ Hid (z = whO x y) ∧ Hid (Comb whO f1 f2 g1 g2 made) ∧ Ext w wr)
  case atStart => exact ⟨[], f, [], g, [], 0, 0, 0, rfl, rfl, rfl, hf.out, hg.out, World.ownsRow_nil _ _ _ _, rfl, rfl, rfl, rfl, rfl, (by show (0 : Int) = whO 0 0; rfl), Comb.start rfl f g, q2.grown⟩
  case round =>
    obtain ⟨f1, f2, g1, g2, made, x, y, z, ef, eg, hgh, hjf, hjg, ho, rfl, rfl, rfl, hx, hy, hz, hC, hX⟩ := hrel
    have maf : Hid (mayJ (f1 ++ f2) = true) := by show _ = _; rw [← ef.out]; exact ha.out
    have mag : Hid (mayJ (g1 ++ g2) = true) := by show _ = _; rw [← eg.out]; exact hb.out
    have lf1 : f1.length + f2.length ≤ 1024 := by have := mayJ_len maf.out; rw [List.length_append] at this; exact this
    have lg1 : g1.length + g2.length ≤ 1024 := by have := mayJ_len mag.out; rw [List.length_append] at this; exact this
    have lmd : made.length ≤ 2048 := by have := hC.out.len; omega
    obtain ⟨B, bcap, rfl, hbl, hbm, -⟩ := jw_form hjf
    obtain ⟨B2, bcap2, rfl, hbl2, hbm2, -⟩ := jw_form hjg
    unfold maxLen at hbm hbm2
    have hzX := hX.size
    by_cases hend : f2 = [] ∧ g2 = []
    · obtain ⟨rfl, rfl⟩ := hend
      have hdone : made = opd whO f g := by
        have h1 := ef.out
        have h2 := eg.out
        rw [List.append_nil] at h1 h2
        have := hC.out
        rw [← h1, ← h2] at this
        exact this.done rfl ha.out hb.out
      have huf := hide (fun w' (hX : Ext wr w') => unlessFull_c made _ w.heap.size w' (own_ext ho hX))
      have hnow : Hid (E = full made ∧ R = kept made) := ⟨by rw [hdone]; exact hEF.out, by rw [hdone]; exact hRF.out⟩
      clear hdone hx hy hz hC maf mag hEF hRF
      obtain ⟨C, ccap, rfl⟩ := own_form ho
      clear ho
      go_wp2_with (go_at_call 95; refine (huf.out _ (Ext.refl wr)).mono ?_; rintro ee w3 ⟨v3, rfl, ho3, hx3⟩)
      go_returns
      rw [hnow.out.1, hnow.out.2]
      exact ⟨_, rfl, ho3, hX.trans hx3⟩
    · obtain ⟨t, ht⟩ : ∃ t, t = min (nxt f2) (nxt g2) := ⟨_, rfl⟩
      have htF : t < 1125899906842624 := by
        have h1 := nxt_le maf.out
        have h2 := nxt_le mag.out
        by_cases e : f2 = []
        · have h3 := nxt_lt mag.out (fun e2 => hend ⟨e, e2⟩); omega
        · have h3 := nxt_lt maf.out e; omega
      have hstep := hide (hC.out.step maf.out mag.out hend t ht)
      have hmeas := pas_measure maf.out mag.out hend ht
      have hxb : -1073741824 ≤ x ∧ x ≤ 1073741824 := by have := js_pre maf.out; rw [← hx.out] at this; exact this
      have hyb : -1073741824 ≤ y ∧ y ≤ 1073741824 := by have := js_pre mag.out; rw [← hy.out] at this; exact this
      have hf1 := hide (fun w' (h : Ext wr w') => jfirst_c f2 _ w' (Sl.ext hjf (hX.trans h)))
      have hf2 := hide (fun w' (h : Ext wr w') => jfirst_c g2 _ w' (Sl.ext hjg (hX.trans h)))
      have hp1 := hide (fun w' (h : Ext wr w') => pass_c x f2 t _ w' hxb (mayJ_net (mayJ_right maf.out)) htF (Sl.ext hjf (hX.trans h)))
      have hp2 := hide (fun w' (h : Ext wr w') => pass_c y g2 t _ w' hyb (mayJ_net (mayJ_right mag.out)) htF (Sl.ext hjg (hX.trans h)))
      obtain ⟨x', hx'⟩ : ∃ x', x' = x + js (pasL f2 t) := ⟨_, rfl⟩
      obtain ⟨y', hy'⟩ : ∃ y', y' = y + js (pasL g2 t) := ⟨_, rfl⟩
      rw [← hx'] at hp1
      rw [← hy'] at hp2
      have ex : x' = js (f1 ++ pasL f2 t) := by rw [hx', hx.out, js_append]
      have ey : y' = js (g1 ++ pasL g2 t) := by rw [hy', hy.out, js_append]
      have ef' : f = (f1 ++ pasL f2 t) ++ pasR f2 t := by rw [List.append_assoc, pas_eq]; exact ef.out
      have eg' : g = (g1 ++ pasL g2 t) ++ pasR g2 t := by rw [List.append_assoc, pas_eq]; exact eg.out
      have hxb' : -1073741824 ≤ x' ∧ x' ≤ 1073741824 := by rw [ex]; exact js_pre (by rw [← ef']; exact ha.out)
      have hyb' : -1073741824 ≤ y' ∧ y' ≤ 1073741824 := by rw [ey]; exact js_pre (by rw [← eg']; exact hb.out)
      have hop := hide (fun w' => whOp_c x' y' hxb' hyb' w')
      obtain ⟨z1, z2⟩ := (show -1152921504606846976 ≤ z ∧ z ≤ 1152921504606846976 by rw [hz.out]; exact small_wh x y hxb hyb)
      obtain ⟨n1, n2⟩ := small_wh x' y' hxb' hyb'
      replace hstep := hstep.out
      rw [← ex, ← ey, ← hx.out, ← hy.out, ← hz.out] at hstep
      obtain ⟨nw, hnw⟩ : ∃ nw, nw = whO x' y' := ⟨_, rfl⟩
      rw [← hnw] at hop hstep n1 n2
      obtain ⟨a, haa⟩ : ∃ a, a = nxt f2 := ⟨_, rfl⟩
      obtain ⟨b, hbb⟩ : ∃ b, b = nxt g2 := ⟨_, rfl⟩
      rw [← haa] at hf1 ht
      rw [← hbb] at hf2 ht
      replace ex := hide ex
      replace ey := hide ey
      replace ef' := hide ef'
      replace eg' := hide eg'
      replace hnw := hide hnw
      have hlen : Hid ((0 < f2.length) ∨ (f2.length = 0 ∧ 0 < g2.length)) := by
        show _ ∨ _
        rcases f2 with _ | ⟨j, r⟩
        · rcases g2 with _ | ⟨k, s⟩
          · exact absurd ⟨rfl, rfl⟩ hend
          · right; simp
        · left; simp
      clear haa hbb hx' hy' hx hy hz hC ef eg maf mag hend hxb hyb htF hEF hRF hxb' hyb'
      have hjf' := hide hjf
      have hjg' := hide hjg
      clear hjf hjg
      obtain ⟨fl, hfl2⟩ : ∃ fl, fl = f2.length := ⟨_, rfl⟩
      obtain ⟨gl, hgl2⟩ : ∃ gl, gl = g2.length := ⟨_, rfl⟩
      obtain ⟨C, ccap, rfl⟩ := own_form ho
      replace ho := hide ho
      rw [← hfl2, ← hgl2] at hlen hmeas hgh
      have hjf2 : Hid (∀ W', Ext w W' → Jw W' [] (.slice B fl bcap) f2) := by intro W' h; rw [hfl2]; exact Sl.ext hjf'.out h
      have hjg2 : Hid (∀ W', Ext w W' → Jw W' [] (.slice B2 gl bcap2) g2) := by intro W' h; rw [hgl2]; exact Sl.ext hjg'.out h
      have hjw1 : Hid (Jw w [] (.slice B fl bcap) f2) := by show Jw _ _ _ _; rw [hfl2]; exact hjf'.out
      have hjw2 : Hid (Jw w [] (.slice B2 gl bcap2) g2) := by show Jw _ _ _ _; rw [hgl2]; exact hjg'.out
      rw [← hfl2] at hf1 hp1 hbl ⊢
      rw [← hgl2] at hf2 hp2 hbl2 ⊢
      have flI : (fl : Int) ≤ 1024 := by omega
      have glI : (gl : Int) ≤ 1024 := by omega
      clear hjf' hjg' hfl2 hgl2 lf1 lg1 hjf2 hjg2
      rcases Int.lt_or_le b a with hab | hab
      · have htb : t = b := by omega
        clear ht
        subst htb
        rcases hlen.out with hl | ⟨rfl, hl⟩
        · have hlI : (0 : Int) < fl := by omega
          clear hlen
          by_cases hne : nw = z
          · have hb' : (nw != z) = false := by simp [hne]
            rw [if_pos hne] at hstep
            replace hstep := hide hstep
            replace hne := hide hne
            go_wp2_with (first | (go_at_call 144; (with_reducible refine seq_gw (hf1.out _ (Ext.refl wr)) ?_); intro q1) | (go_at_call 144; (with_reducible refine seq_gw' (hf2.out _ q1.grown) ?_); intro q3) | (go_at_call 145; ((with_reducible refine (hp1.out _ q3.grown).mono ?_); rintro ee w4 ⟨v4, rfl, hv4, hx4⟩)) | (go_at_call 145; ((with_reducible refine (hp2.out _ (q3.grown.trans hx4)).mono ?_); rintro ee w5 ⟨v5, rfl, hv5, hx5⟩)) | (go_at_call 137; (with_reducible refine seq_gw (hop.out _) ?_); intro q6; have hXq := hide (q3.grown.trans (hx4.trans (hx5.trans q6.grown))); have hzq := hXq.out.size))
            go_roundg ((pasR f2 t).length + (pasR g2 t).length)
            case measure => omega
            case rel => exact ⟨f1 ++ pasL f2 t, pasR f2 t, g1 ++ pasL g2 t, pasR g2 t, made, x', y', nw, ef', eg', rfl, hv4 w hjw1.out, hv5 w hjw2.out, own_ext ho.out hXq.out, rfl, rfl, by first | rfl | simp [hne.out], ex, ey, hnw, hstep.out, hX.trans hXq.out⟩
          · have hb' : (nw != z) = true := by simp [hne]
            rw [if_neg hne] at hstep
            replace hstep := hide hstep
            replace hne := hide hne
            go_wp2_with (first | (go_at_call 144; (with_reducible refine seq_gw (hf1.out _ (Ext.refl wr)) ?_); intro q1) | (go_at_call 144; (with_reducible refine seq_gw' (hf2.out _ q1.grown) ?_); intro q3) | (go_at_call 145; ((with_reducible refine (hp1.out _ q3.grown).mono ?_); rintro ee w4 ⟨v4, rfl, hv4, hx4⟩)) | (go_at_call 145; ((with_reducible refine (hp2.out _ (q3.grown.trans hx4)).mono ?_); rintro ee w5 ⟨v5, rfl, hv5, hx5⟩)) | (go_at_call 137; (with_reducible refine seq_gw (hop.out _) ?_); intro q6; have hXq := hide (q3.grown.trans (hx4.trans (hx5.trans q6.grown))); have hzq := hXq.out.size) | (at_builtin; (refine wpl_app tJmp rfl (.tmp 56) (.tmp 62) rfl rfl (own_ext (own_ext ho.out hXq.out) ((Ext.refl q6.val).alloc _)) rfl (src_jmp Tryz.underlying39 q6.val (t, nw - z) _) (by unfold maxLen; omega) (by omega) (by simp only [World.size_alloc]; omega) ?_; intro v7 w7 ho7 hg7 _)))
            go_roundg ((pasR f2 t).length + (pasR g2 t).length)
            case measure => omega
            case rel => exact ⟨f1 ++ pasL f2 t, pasR f2 t, g1 ++ pasL g2 t, pasR g2 t, made ++ [(t, nw - z)], x', y', nw, ef', eg', rfl, hv4 w hjw1.out, hv5 w hjw2.out, own_appJ ho7, rfl, rfl, rfl, ex, ey, hnw, hstep.out, ext_grown (hX.trans (hXq.out.alloc _)) hg7 (fun k hk => (ho.out.lt k hk).1)⟩
        · have hlI : (0 : Int) < gl := by omega
          clear hlen
          by_cases hne : nw = z
          · have hb' : (nw != z) = false := by simp [hne]
            rw [if_pos hne] at hstep
            replace hstep := hide hstep
            replace hne := hide hne
            go_wp2_with (first | (go_at_call 144; (with_reducible refine seq_gw (hf1.out _ (Ext.refl wr)) ?_); intro q1) | (go_at_call 144; (with_reducible refine seq_gw' (hf2.out _ q1.grown) ?_); intro q3) | (go_at_call 145; ((with_reducible refine (hp1.out _ q3.grown).mono ?_); rintro ee w4 ⟨v4, rfl, hv4, hx4⟩)) | (go_at_call 145; ((with_reducible refine (hp2.out _ (q3.grown.trans hx4)).mono ?_); rintro ee w5 ⟨v5, rfl, hv5, hx5⟩)) | (go_at_call 137; (with_reducible refine seq_gw (hop.out _) ?_); intro q6; have hXq := hide (q3.grown.trans (hx4.trans (hx5.trans q6.grown))); have hzq := hXq.out.size))
            go_roundg ((pasR f2 t).length + (pasR g2 t).length)
            case measure => omega
            case rel => exact ⟨f1 ++ pasL f2 t, pasR f2 t, g1 ++ pasL g2 t, pasR g2 t, made, x', y', nw, ef', eg', rfl, hv4 w hjw1.out, hv5 w hjw2.out, own_ext ho.out hXq.out, rfl, rfl, by first | rfl | simp [hne.out], ex, ey, hnw, hstep.out, hX.trans hXq.out⟩
          · have hb' : (nw != z) = true := by simp [hne]
            rw [if_neg hne] at hstep
            replace hstep := hide hstep
            replace hne := hide hne
            go_wp2_with (first | (go_at_call 144; (with_reducible refine seq_gw (hf1.out _ (Ext.refl wr)) ?_); intro q1) | (go_at_call 144; (with_reducible refine seq_gw' (hf2.out _ q1.grown) ?_); intro q3) | (go_at_call 145; ((with_reducible refine (hp1.out _ q3.grown).mono ?_); rintro ee w4 ⟨v4, rfl, hv4, hx4⟩)) | (go_at_call 145; ((with_reducible refine (hp2.out _ (q3.grown.trans hx4)).mono ?_); rintro ee w5 ⟨v5, rfl, hv5, hx5⟩)) | (go_at_call 137; (with_reducible refine seq_gw (hop.out _) ?_); intro q6; have hXq := hide (q3.grown.trans (hx4.trans (hx5.trans q6.grown))); have hzq := hXq.out.size) | (at_builtin; (refine wpl_app tJmp rfl (.tmp 56) (.tmp 62) rfl rfl (own_ext (own_ext ho.out hXq.out) ((Ext.refl q6.val).alloc _)) rfl (src_jmp Tryz.underlying39 q6.val (t, nw - z) _) (by unfold maxLen; omega) (by omega) (by simp only [World.size_alloc]; omega) ?_; intro v7 w7 ho7 hg7 _)))
            go_roundg ((pasR f2 t).length + (pasR g2 t).length)
            case measure => omega
            case rel => exact ⟨f1 ++ pasL f2 t, pasR f2 t, g1 ++ pasL g2 t, pasR g2 t, made ++ [(t, nw - z)], x', y', nw, ef', eg', rfl, hv4 w hjw1.out, hv5 w hjw2.out, own_appJ ho7, rfl, rfl, rfl, ex, ey, hnw, hstep.out, ext_grown (hX.trans (hXq.out.alloc _)) hg7 (fun k hk => (ho.out.lt k hk).1)⟩
      · have htb : t = a := by omega
        clear ht
        subst htb
        rcases hlen.out with hl | ⟨rfl, hl⟩
        · have hlI : (0 : Int) < fl := by omega
          clear hlen
          by_cases hne : nw = z
          · have hb' : (nw != z) = false := by simp [hne]
            rw [if_pos hne] at hstep
            replace hstep := hide hstep
            replace hne := hide hne
            go_wp2_with (first | (go_at_call 144; (with_reducible refine seq_gw (hf1.out _ (Ext.refl wr)) ?_); intro q1) | (go_at_call 144; (with_reducible refine seq_gw' (hf2.out _ q1.grown) ?_); intro q3) | (go_at_call 145; ((with_reducible refine (hp1.out _ q3.grown).mono ?_); rintro ee w4 ⟨v4, rfl, hv4, hx4⟩)) | (go_at_call 145; ((with_reducible refine (hp2.out _ (q3.grown.trans hx4)).mono ?_); rintro ee w5 ⟨v5, rfl, hv5, hx5⟩)) | (go_at_call 137; (with_reducible refine seq_gw (hop.out _) ?_); intro q6; have hXq := hide (q3.grown.trans (hx4.trans (hx5.trans q6.grown))); have hzq := hXq.out.size))
            go_roundg ((pasR f2 t).length + (pasR g2 t).length)
            case measure => omega
            case rel => exact ⟨f1 ++ pasL f2 t, pasR f2 t, g1 ++ pasL g2 t, pasR g2 t, made, x', y', nw, ef', eg', rfl, hv4 w hjw1.out, hv5 w hjw2.out, own_ext ho.out hXq.out, rfl, rfl, by first | rfl | simp [hne.out], ex, ey, hnw, hstep.out, hX.trans hXq.out⟩
          · have hb' : (nw != z) = true := by simp [hne]
            rw [if_neg hne] at hstep
            replace hstep := hide hstep
            replace hne := hide hne
            go_wp2_with (first | (go_at_call 144; (with_reducible refine seq_gw (hf1.out _ (Ext.refl wr)) ?_); intro q1) | (go_at_call 144; (with_reducible refine seq_gw' (hf2.out _ q1.grown) ?_); intro q3) | (go_at_call 145; ((with_reducible refine (hp1.out _ q3.grown).mono ?_); rintro ee w4 ⟨v4, rfl, hv4, hx4⟩)) | (go_at_call 145; ((with_reducible refine (hp2.out _ (q3.grown.trans hx4)).mono ?_); rintro ee w5 ⟨v5, rfl, hv5, hx5⟩)) | (go_at_call 137; (with_reducible refine seq_gw (hop.out _) ?_); intro q6; have hXq := hide (q3.grown.trans (hx4.trans (hx5.trans q6.grown))); have hzq := hXq.out.size) | (at_builtin; (refine wpl_app tJmp rfl (.tmp 56) (.tmp 62) rfl rfl (own_ext (own_ext ho.out hXq.out) ((Ext.refl q6.val).alloc _)) rfl (src_jmp Tryz.underlying39 q6.val (t, nw - z) _) (by unfold maxLen; omega) (by omega) (by simp only [World.size_alloc]; omega) ?_; intro v7 w7 ho7 hg7 _)))
            go_roundg ((pasR f2 t).length + (pasR g2 t).length)
            case measure => omega
            case rel => exact ⟨f1 ++ pasL f2 t, pasR f2 t, g1 ++ pasL g2 t, pasR g2 t, made ++ [(t, nw - z)], x', y', nw, ef', eg', rfl, hv4 w hjw1.out, hv5 w hjw2.out, own_appJ ho7, rfl, rfl, rfl, ex, ey, hnw, hstep.out, ext_grown (hX.trans (hXq.out.alloc _)) hg7 (fun k hk => (ho.out.lt k hk).1)⟩
        · have hlI : (0 : Int) < gl := by omega
          clear hlen
          by_cases hne : nw = z
          · have hb' : (nw != z) = false := by simp [hne]
            rw [if_pos hne] at hstep
            replace hstep := hide hstep
            replace hne := hide hne
            go_wp2_with (first | (go_at_call 144; (with_reducible refine seq_gw (hf1.out _ (Ext.refl wr)) ?_); intro q1) | (go_at_call 144; (with_reducible refine seq_gw' (hf2.out _ q1.grown) ?_); intro q3) | (go_at_call 145; ((with_reducible refine (hp1.out _ q3.grown).mono ?_); rintro ee w4 ⟨v4, rfl, hv4, hx4⟩)) | (go_at_call 145; ((with_reducible refine (hp2.out _ (q3.grown.trans hx4)).mono ?_); rintro ee w5 ⟨v5, rfl, hv5, hx5⟩)) | (go_at_call 137; (with_reducible refine seq_gw (hop.out _) ?_); intro q6; have hXq := hide (q3.grown.trans (hx4.trans (hx5.trans q6.grown))); have hzq := hXq.out.size))
            go_roundg ((pasR f2 t).length + (pasR g2 t).length)
            case measure => omega
            case rel => exact ⟨f1 ++ pasL f2 t, pasR f2 t, g1 ++ pasL g2 t, pasR g2 t, made, x', y', nw, ef', eg', rfl, hv4 w hjw1.out, hv5 w hjw2.out, own_ext ho.out hXq.out, rfl, rfl, by first | rfl | simp [hne.out], ex, ey, hnw, hstep.out, hX.trans hXq.out⟩
          · have hb' : (nw != z) = true := by simp [hne]
            rw [if_neg hne] at hstep
            replace hstep := hide hstep
            replace hne := hide hne
            go_wp2_with (first | (go_at_call 144; (with_reducible refine seq_gw (hf1.out _ (Ext.refl wr)) ?_); intro q1) | (go_at_call 144; (with_reducible refine seq_gw' (hf2.out _ q1.grown) ?_); intro q3) | (go_at_call 145; ((with_reducible refine (hp1.out _ q3.grown).mono ?_); rintro ee w4 ⟨v4, rfl, hv4, hx4⟩)) | (go_at_call 145; ((with_reducible refine (hp2.out _ (q3.grown.trans hx4)).mono ?_); rintro ee w5 ⟨v5, rfl, hv5, hx5⟩)) | (go_at_call 137; (with_reducible refine seq_gw (hop.out _) ?_); intro q6; have hXq := hide (q3.grown.trans (hx4.trans (hx5.trans q6.grown))); have hzq := hXq.out.size) | (at_builtin; (refine wpl_app tJmp rfl (.tmp 56) (.tmp 62) rfl rfl (own_ext (own_ext ho.out hXq.out) ((Ext.refl q6.val).alloc _)) rfl (src_jmp Tryz.underlying39 q6.val (t, nw - z) _) (by unfold maxLen; omega) (by omega) (by simp only [World.size_alloc]; omega) ?_; intro v7 w7 ho7 hg7 _)))
            go_roundg ((pasR f2 t).length + (pasR g2 t).length)
            case measure => omega
            case rel => exact ⟨f1 ++ pasL f2 t, pasR f2 t, g1 ++ pasL g2 t, pasR g2 t, made ++ [(t, nw - z)], x', y', nw, ef', eg', rfl, hv4 w hjw1.out, hv5 w hjw2.out, own_appJ ho7, rfl, rfl, rfl, ex, ey, hnw, hstep.out, ext_grown (hX.trans (hXq.out.alloc _)) hg7 (fun k hk => (ho.out.lt k hk).1)⟩
set_option maxHeartbeats 1000000 in
theorem stepWhere_c (l g : List Jp) (vf vg : Value) (w : World) (hf : Jw w [] vf l) (hg : Jw w [] vg g) : Calls Tryz.prog 107 #[vf, vg] w fun e w' => ∃ v', e = .returned (.tuple #[v', .int .i64 (twE whO l g)]) ∧ OwnJ w' w.heap.size v' (twR whO l g) ∧ Ext w w' := by
  have hc := hide (combineWh_c l g vf vg w hf hg)
  generalize twE whO l g = E at *
  generalize twR whO l g = R at *
  clear hf hg
  go_enter Tryz.func107, Tryz.ntmps107
  go_wp2_with (go_at_call 114; refine hc.out.mono ?_; rintro ee w3 ⟨v3, rfl, ho3, hx3⟩)
  go_returns
  exact ⟨_, rfl, ho3, hx3⟩
end Go.Proofs.YtljkneajdndgjabGreat
