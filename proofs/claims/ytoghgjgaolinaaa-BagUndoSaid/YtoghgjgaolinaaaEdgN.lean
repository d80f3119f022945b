/-
  A helper of ours: no claim of its own. Layer 10 (edge): edges put together, by the code.
-/
import Derived.Test.YtoghgjgaolinaaaDrRowC
import Derived.Test.YtoghgjgaolinaaaEdgB
import Derived.Test.YtoghgjgaolinaaaSortE
import Derived.Test.YtoghgjgaolinaaaStepN
import Derived.Test.YtoghgjgaolinaaaDrValA
set_option linter.unusedVariables false
set_option linter.unusedSimpArgs false
namespace Go.Proofs.Ytoghgjgaolinaaa.Dr
open Go.RowKit
attribute [local go_sem] GW.cell GW.frozen In.eq_true In.le_true In.ne In.ne' In.ne_add In.ne_add' In.lt_add Upto.le_true Upto.le_add Upto.lt_add
section
variable {l m : List Vl} {v u : Value} {w : World}
set_option maxHeartbeats 2000000 in
set_option maxRecDepth 100000 in
theorem rowCompareNo_c (hl : Rw w [] v l) (hm : Rw w [] u m) (h : (mayR l && mayR m) = false) : Calls Try.prog 71 #[v, u] w fun e w' => e = .returned (.int .i64 0) ∧ Ext w w' := by
  have h1 := hide (fun w' (hX : Ext w w') => rowMay_c l v w' (Sl.ext hl hX))
  have h2 := hide (fun w' (hX : Ext w w') => rowMay_c m u w' (Sl.ext hm hX))
  obtain ⟨A, cap, rfl, -, -, -⟩ := rw_form hl
  obtain ⟨B, cap2, rfl, -, -, -⟩ := rw_form hm
  have hX0 := hide (((Ext.refl w).alloc (bxR (.slice A l.length cap))).alloc (bxR (.slice B m.length cap2)))
  clear hl hm
  cases ha : mayR l
  · rw [ha] at h1
    clear h ha
    go_enter Try.func71, Try.ntmps71
    go_wp2_with (go_at_call 72; (with_reducible refine seq_gw (h1.out _ hX0.out) ?_); intro g)
    go_returns
    exact ⟨rfl, hX0.out.trans g.grown⟩
  · rw [ha, Bool.true_and] at h
    rw [ha] at h1
    rw [h] at h2
    clear h ha
    go_enter Try.func71, Try.ntmps71
    go_wp2_with (first | (go_at_call 72; (with_reducible refine seq_gw (h1.out _ hX0.out) ?_); intro g) | (go_at_call 72; (with_reducible refine seq_gw' (h2.out _ (hX0.out.trans g.grown)) ?_); intro g2))
    go_returns
    exact ⟨rfl, hX0.out.trans g2.grown⟩
set_option maxHeartbeats 4000000 in
set_option maxRecDepth 100000 in
theorem rowCompareYes_c (hl : Rw w [] v l) (hm : Rw w [] u m) (ha : mayR l = true) (hb : mayR m = true) : Calls Try.prog 71 #[v, u] w fun e w' => e = .returned (.int .i64 (cmpT l m)) ∧ Ext w w' := by
  have h1 := hide (fun w' (hX : Ext w w') => rowMay_c l v w' (Sl.ext hl hX))
  have h2 := hide (fun w' (hX : Ext w w') => rowMay_c m u w' (Sl.ext hm hX))
  rw [ha] at h1
  rw [hb] at h2
  obtain ⟨A, cap, rfl, hlc, hlm, hat⟩ := rw_form hl
  obtain ⟨B, cap2, rfl, hmc, hmm, hbt⟩ := rw_form hm
  unfold maxLen at hlm hmm
  have l8 := (mayR_iff.1 ha).1
  have m8 := (mayR_iff.1 hb).1
  replace hat := hide hat
  replace hbt := hide hbt
  have hX0 := hide (((Ext.refl w).alloc (bxR (.slice A l.length cap))).alloc (bxR (.slice B m.length cap2)))
  have oa := (Ob.new w 34 [.slice A l.length cap]).alloc (bxR (.slice B m.length cap2))
  have ob : Ob ((w.alloc (bxR (.slice A l.length cap))).alloc (bxR (.slice B m.length cap2))) (w.heap.size + 1) 34 [.slice B m.length cap2] := by
    have := Ob.new (w.alloc (bxR (.slice A l.length cap))) 34 [.slice B m.length cap2]
    simpa using this
  replace oa := hide oa
  replace ob := hide ob
  have hf : Hid (∀ w', Ext ((w.alloc (bxR (.slice A l.length cap))).alloc (bxR (.slice B m.length cap2))) w' → Calls Try.prog 108 #[.int .i64 (min l.length m.length : Nat), .func (.func 109) #[] #[.pointer (some ⟨w.heap.size, 0, none⟩), .pointer (some ⟨w.heap.size + 1, 0, none⟩)]] w' fun e w'' => e = .returned (.int .i64 (pre l m : Nat)) ∧ Ext w' w'') :=
    fun w' hX => first_c (Sl.ext hl (hX0.out.trans hX)) (Sl.ext hm (hX0.out.trans hX)) (oa.out.ext hX) (ob.out.ext hX) _ rfl
  have hpl := pre_le l m
  by_cases hlt : m.length < l.length
  · have e0 : min l.length m.length = m.length := by omega
    rw [e0] at hf
    have hI : (m.length : Int) < l.length := by omega
    by_cases hp : pre l m = m.length
    · have hce := cmpT_end l m (by rw [e0]; exact hp)
      rw [hce]
      rw [hp] at hf
      have hc := hide (fun w => cmpInt_c l.length m.length w)
      clear hce hp e0 hlt hat hbt hpl ha hb oa ob hl hm
      go_enter Try.func71, Try.ntmps71
      go_wp2_with (first | (go_at_call 72; (with_reducible refine seq_gw (h1.out _ hX0.out) ?_); intro g) | (go_at_call 72; (with_reducible refine seq_gw' (h2.out _ (hX0.out.trans g.grown)) ?_); intro g2) | (go_at_call 108; (with_reducible refine seq_gw' (hf.out _ g2.grown) ?_); intro g3) | (go_at_call 110; (with_reducible refine seq_gw' (hc.out _) ?_); intro g4))
      go_returns
      exact ⟨rfl, hX0.out.trans g4.grown⟩
    · obtain ⟨x, hx⟩ : ∃ x, l[pre l m]? = some x := ⟨_, List.getElem?_eq_getElem (by omega)⟩
      obtain ⟨y, hy⟩ : ∃ y, m[pre l m]? = some y := ⟨_, List.getElem?_eq_getElem (by omega)⟩
      have hcd := cmpT_diff l m x y hx hy
      rw [hcd]
      obtain ⟨b, o, rfl, -, hb1, c0, c1, c2⟩ := hat.out _ x hx
      obtain ⟨b', o', rfl, -, hb2, d0, d1, d2⟩ := hbt.out _ y hy
      obtain ⟨xk, xn, xs⟩ := x
      obtain ⟨yk, yn, ys⟩ := y
      have hc := hide (fun w => compare_c xk xn yk yn xs ys w)
      have hpb : (((pre l m : Nat) : Int) == m.length) = false := by rw [beq_eq_false_iff_ne]; omega
      have hp1 : pre l m < l.length := by omega
      have hp2 : pre l m < m.length := by omega
      haveI : In b w := ⟨hb1⟩
      haveI : In b' w := ⟨hb2⟩
      generalize pre l m = q at *
      clear hcd hp e0 hlt hat hbt hx hy hpl ha hb oa ob hl hm
      go_enter Try.func71, Try.ntmps71
      go_wp2_with (first | (go_at_call 72; (with_reducible refine seq_gw (h1.out _ hX0.out) ?_); intro g) | (go_at_call 72; (with_reducible refine seq_gw' (h2.out _ (hX0.out.trans g.grown)) ?_); intro g2) | (go_at_call 108; (with_reducible refine seq_gw' (hf.out _ g2.grown) ?_); intro g3))
      refine wp_region_gw (by kernel_rfl) (by kernel_rfl) ?_
      repeat (go_big_quiet_step ((go_at_call 111; with_reducible exact quiet_gw (hc.out _))))
      refine wpQuiet_nil ?_
      intro g4
      go_wp2_with fail
      go_returns
      exact ⟨rfl, hX0.out.trans (g3.grown.trans g4.grown)⟩
  · have e0 : min l.length m.length = l.length := by omega
    rw [e0] at hf
    have hI : ¬ (m.length : Int) < l.length := by omega
    by_cases hp : pre l m = l.length
    · have hce := cmpT_end l m (by rw [e0]; exact hp)
      rw [hce]
      rw [hp] at hf
      have hc := hide (fun w => cmpInt_c l.length m.length w)
      clear hce hp e0 hlt hat hbt hpl ha hb oa ob hl hm
      go_enter Try.func71, Try.ntmps71
      go_wp2_with (first | (go_at_call 72; (with_reducible refine seq_gw (h1.out _ hX0.out) ?_); intro g) | (go_at_call 72; (with_reducible refine seq_gw' (h2.out _ (hX0.out.trans g.grown)) ?_); intro g2) | (go_at_call 108; (with_reducible refine seq_gw' (hf.out _ g2.grown) ?_); intro g3) | (go_at_call 110; (with_reducible refine seq_gw' (hc.out _) ?_); intro g4))
      go_returns
      exact ⟨rfl, hX0.out.trans g4.grown⟩
    · obtain ⟨x, hx⟩ : ∃ x, l[pre l m]? = some x := ⟨_, List.getElem?_eq_getElem (by omega)⟩
      obtain ⟨y, hy⟩ : ∃ y, m[pre l m]? = some y := ⟨_, List.getElem?_eq_getElem (by omega)⟩
      have hcd := cmpT_diff l m x y hx hy
      rw [hcd]
      obtain ⟨b, o, rfl, -, hb1, c0, c1, c2⟩ := hat.out _ x hx
      obtain ⟨b', o', rfl, -, hb2, d0, d1, d2⟩ := hbt.out _ y hy
      obtain ⟨xk, xn, xs⟩ := x
      obtain ⟨yk, yn, ys⟩ := y
      have hc := hide (fun w => compare_c xk xn yk yn xs ys w)
      have hpb : (((pre l m : Nat) : Int) == l.length) = false := by rw [beq_eq_false_iff_ne]; omega
      have hp1 : pre l m < l.length := by omega
      have hp2 : pre l m < m.length := by omega
      haveI : In b w := ⟨hb1⟩
      haveI : In b' w := ⟨hb2⟩
      generalize pre l m = q at *
      clear hcd hp e0 hlt hat hbt hx hy hpl ha hb oa ob hl hm
      go_enter Try.func71, Try.ntmps71
      go_wp2_with (first | (go_at_call 72; (with_reducible refine seq_gw (h1.out _ hX0.out) ?_); intro g) | (go_at_call 72; (with_reducible refine seq_gw' (h2.out _ (hX0.out.trans g.grown)) ?_); intro g2) | (go_at_call 108; (with_reducible refine seq_gw' (hf.out _ g2.grown) ?_); intro g3))
      refine wp_region_gw (by kernel_rfl) (by kernel_rfl) ?_
      repeat (go_big_quiet_step ((go_at_call 111; with_reducible exact quiet_gw (hc.out _))))
      refine wpQuiet_nil ?_
      intro g4
      go_wp2_with fail
      go_returns
      exact ⟨rfl, hX0.out.trans (g3.grown.trans g4.grown)⟩
theorem rowCompare_c (hl : Rw w [] v l) (hm : Rw w [] u m) : Calls Try.prog 71 #[v, u] w fun e w' => e = .returned (.int .i64 (cmpR l m)) ∧ Ext w w' := by
  cases h : (mayR l && mayR m)
  · rw [show cmpR l m = 0 by unfold cmpR; rw [h]; rfl]
    exact rowCompareNo_c hl hm h
  · rw [show cmpR l m = cmpT l m by unfold cmpR; rw [h]; rfl]
    rw [Bool.and_eq_true] at h
    exact rowCompareYes_c hl hm h.1 h.2
end
end Go.Proofs.Ytoghgjgaolinaaa.Dr
set_option linter.unusedVariables false
set_option linter.unusedSimpArgs false
namespace Go.Proofs.Ytoghgjgaolinaaa.Dr
open Go.RowKit
attribute [local go_sem] GW.cell GW.frozen In.eq_true In.le_true In.ne In.ne' In.ne_add In.ne_add' In.lt_add Upto.le_true Upto.le_add Upto.lt_add
set_option maxHeartbeats 1000000 in
theorem byRow_d (q : List Vl) (j : Jp) (v : Value) (r : List Vl) (k : Jp) (u : Value) (w : World) (hq : Rw w [] v q) (hr : Rw w [] u r) : Calls Try.prog 58 #[em v j, em u k] w fun e w' => e = .returned (.int .i64 (cmpR q r)) ∧ Ext w w' := by
  obtain ⟨jp, jn⟩ := j
  obtain ⟨kp, kn⟩ := k
  have h1 := hide (fun w' (hX : Ext w w') => rowCompare_c (Sl.ext hq hX.ext) (Sl.ext hr hX.ext))
  obtain ⟨A, cap, rfl⟩ := rw_val hq
  obtain ⟨B, cap2, rfl⟩ := rw_val hr
  have hX0 := hide (((Ext.refl w).alloc (.cells #[.slice A q.length cap, .int .i64 jp, .int .i64 jn] 36)).alloc (.cells #[.slice B r.length cap2, .int .i64 kp, .int .i64 kn] 36))
  generalize cmpR q r = m at *
  clear hq hr
  go_enter Try.func58, Try.ntmps58
  go_wp2_with (go_at_call 71; (with_reducible refine seq_gw (h1.out _ hX0.out) ?_); intro g)
  go_returns
  exact ⟨rfl, hX0.out.trans g.grown⟩
theorem ext_grow {W w : World} (h : Ext W w) : ∃ q os', w = Go.Sort.grow (W.drewN q) os' := by
  obtain ⟨⟨hos, htape, hout, hsize, hblock⟩, hd⟩ := h
  refine ⟨w.drawn - W.drawn, w.heap.extract W.heap.size w.heap.size, ?_⟩
  have hh : w.heap = W.heap ++ w.heap.extract W.heap.size w.heap.size := by
    apply Array.ext_getElem?
    intro i
    by_cases hi : i < W.heap.size
    · rw [Array.getElem?_append_left hi, hblock i hi]
    · rw [Array.getElem?_append_right (by omega), Array.getElem?_extract]
      by_cases hj : i < w.heap.size
      · rw [if_pos (by omega)]; congr 1; omega
      · rw [if_neg (by omega), Array.getElem?_eq_none (by omega)]
  obtain ⟨wh, wt, wd, wo, wu⟩ := w
  obtain ⟨Wh, Wt, Wd, Wo, Wu⟩ := W
  simp only at hos htape hout hd hh
  subst hos; subst htape; subst hout
  unfold Go.Sort.grow World.drewN
  simp only
  rw [show Wd + (wd - Wd) = wd by omega]
  congr 1
end Go.Proofs.Ytoghgjgaolinaaa.Dr
namespace Go.Proofs.Ytoghgjgaolinaaa
open Go.RowKit
/-- An edge whose row is one, and lies elsewhere than in block g. -/
abbrev SE (w : World) (g : Nat) := { p : Ve // Rw w [g] p.1 p.2.1 ∧ mayR p.2.1 = true }
instance (w : World) (g : Nat) : Inhabited (SE w g) := ⟨⟨(.slice none 0 0, [], (0, 0)), Sl.nil w [g] 3, rfl⟩⟩
def encE {w : World} {g : Nat} (x : SE w g) : List Value := ec1 x.1
def cfE {w : World} {g : Nat} (x y : SE w g) : Int := cmpT x.1.2.1 y.1.2.1
theorem lt_cmpE {w : World} {g : Nat} (x y : SE w g) : Go.Proofs.ltOf cfE x y = decide (cmpT x.1.2.1 y.1.2.1 < 0) := rfl
theorem swo_rows {w : World} {g : Nat} : Go.Sort.SWO (Go.Proofs.ltOf (cfE (w := w) (g := g))) where
  irrefl x := by rw [lt_cmpE, cmpT_self x.2.2]; rfl
  trans x y z h1 h2 := by
    rw [lt_cmpE, decide_eq_true_iff] at *
    have := cmpT_trans _ _ _ (mayR_iff.1 x.2.2).2 (mayR_iff.1 y.2.2).2 (mayR_iff.1 z.2.2).2 (by omega) (by omega)
    omega
  ntrans x y z h1 h2 := by
    rw [lt_cmpE, decide_eq_false_iff_not] at *
    have s1 := cmpT_swap x.1.2.1 y.1.2.1
    have s2 := cmpT_swap y.1.2.1 z.1.2.1
    have s3 := cmpT_swap x.1.2.1 z.1.2.1
    have := cmpT_trans _ _ _ (mayR_iff.1 z.2.2).2 (mayR_iff.1 y.2.2).2 (mayR_iff.1 x.2.2).2 (by omega) (by omega)
    omega
theorem flat_ec {w : World} {g : Nat} (l : List (SE w g)) : Go.Sort.flatK encE 3 l.toArray = (ec (l.map Subtype.val)).toArray := by
  apply Array.ext
  · simp [ec_length]
  · intro t h1 h2
    have ht : t < l.length * 3 := by simpa using h1
    have hi : t / 3 < l.length := by omega
    have hg := ec_get (l.map Subtype.val) (t / 3) l[t / 3].1 (by rw [List.getElem?_map, List.getElem?_eq_getElem (by omega)]; rfl)
    have e := Go.Sort.get_flatK encE 3 l.toArray t (by simpa using ht)
    rw [getElem!_pos _ t h1] at e
    have e2 : l.toArray[t / 3]! = l[t / 3] := by rw [getElem!_pos l.toArray (t / 3) (by simpa using hi)]; simp
    rw [e, e2]
    have h2' : t < (ec (l.map Subtype.val)).length := by rw [ec_length, List.length_map]; exact ht
    have e3 : (ec (l.map Subtype.val)).toArray[t] = (ec (l.map Subtype.val))[t] := by simp
    rw [e3]
    have hm : t % 3 < 3 := Nat.mod_lt _ (by decide)
    have key : ∀ j, j < 3 → t = t / 3 * 3 + j → (encE l[t / 3])[t % 3]! = (ec (l.map Subtype.val))[t] := by
      intro j hj ej
      have hjm : t % 3 = j := by omega
      have hv : (ec1 l[t / 3].1)[j]? = some ((ec1 l[t / 3].1)[j]'(by simp [ec1]; omega)) := List.getElem?_eq_getElem _
      have := hg j _ hv
      rw [← ej, List.getElem?_eq_getElem h2'] at this
      rw [Option.some.inj this, hjm]
      unfold encE
      rw [getElem!_pos _ j (by simp [ec1]; omega)]
    exact key (t % 3) hm (by omega)
theorem sub_list {w : World} {g : Nat} : ∀ (L : List Ve), (∀ p ∈ L, Rw w [g] p.1 p.2.1 ∧ mayR p.2.1 = true) → ∃ D : List (SE w g), D.map Subtype.val = L
  | [], _ => ⟨[], rfl⟩
  | p :: L, h => by
    obtain ⟨D, hD⟩ := sub_list L fun q hq => h q (by simp [hq])
    exact ⟨⟨p, h p (by simp)⟩ :: D, by rw [List.map_cons, hD]⟩
end Go.Proofs.Ytoghgjgaolinaaa
set_option linter.unusedVariables false
set_option linter.unusedSimpArgs false
namespace Go.Proofs.Ytoghgjgaolinaaa
open Go.RowKit
attribute [local go_sem] GW.cell GW.frozen In.eq_true In.le_true In.ne In.ne' In.ne_add In.ne_add' In.lt_add Upto.le_true Upto.le_add Upto.lt_add
theorem any_bad : ∀ L : List Ve, (eds L).any badE = (!(L.all fun x => mayR x.2.1) || !(L.all fun x => !tooJ x.2.2))
  | [] => rfl
  | x :: L => by
    have ih := any_bad L
    simp only [eds, List.map_cons, List.any_cons, List.all_cons] at ih ⊢
    rw [ih]
    unfold badE
    cases mayR x.2.1 <;> cases tooJ x.2.2 <;> cases (L.all fun x => mayR x.2.1) <;> cases (L.all fun x => !tooJ x.2.2) <;> rfl
theorem any_now : ∀ L : List Ve, (eds L).any (fun e => nowJ e.2) = !(L.all fun x => !nowJ x.2.2)
  | [] => rfl
  | x :: L => by
    have ih := any_now L
    simp only [eds, List.map_cons, List.any_cons, List.all_cons] at ih ⊢
    rw [ih]
    cases nowJ x.2.2 <;> cases (L.all fun x => !nowJ x.2.2) <;> rfl
theorem mayR_len {r : List Vl} (h : mayR r = true) : r.length ≤ 8 := (mayR_iff.1 h).1
end Go.Proofs.Ytoghgjgaolinaaa
