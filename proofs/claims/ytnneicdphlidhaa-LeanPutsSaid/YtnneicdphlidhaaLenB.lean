/-
  A helper of ours: no claim of its own. Layer 25 (lean): a lean in memory; Put, Parts, Spun, Join, New.
-/
import Derived.Test.YtnneicdphlidhaaLenA
import Derived.Test.YtnneicdphlidhaaReg2
import Derived.Test.YtnneicdphlidhaaReg3
set_option linter.unusedVariables false
set_option linter.unusedSimpArgs false
namespace Go.Proofs.Ytnneicdphlidhaa
open Go.RowKit Floats
attribute [local go_sem] GW.cell GW.frozen In.eq_true In.le_true In.ne In.ne' In.ne_add In.ne_add' In.lt_add Upto.le_true Upto.le_add Upto.lt_add
theorem run_store_complex {P : Program} {w : World} (a : Addr) (m : Mode) (k : FloatKind) (x y : Nat) : (store a (.complex k x y) m).run P w = stored P w a (.complex k x y) m := run_store P w a _ m rfl
attribute [local go_sem] run_store_complex
/-- A lean, where it lies. -/
def Ln (w : World) (b : Nat) (x y : Int) : Prop := ∃ re im, Ob w b 73 [.complex .f64 re im] ∧ Rep re x ∧ Rep im y ∧ Near x y
theorem Ln.ext {w w' : World} {b : Nat} {x y : Int} (h : Ln w b x y) (k : Ext w w') : Ln w' b x y := by
  obtain ⟨re, im, ho, r⟩ := h
  exact ⟨re, im, ho.ext k, r⟩
theorem Ln.fr {S : List Nat} {w w' : World} {b : Nat} {x y : Int} (h : Ln w b x y) (k : Fr S w w') (hn : b ∉ S) : Ln w' b x y := by
  obtain ⟨re, im, ho, r⟩ := h
  exact ⟨re, im, ho.fr k hn, r⟩
theorem Ln.lt {w : World} {b : Nat} {x y : Int} (h : Ln w b x y) : b < w.heap.size := by obtain ⟨_, _, ho, _⟩ := h; exact ho.lt
theorem near_far {x y : Int} (h : farL x y = false) : Near x y := far_no.1 h
/-- What adding a step does. -/
def adE (x y u v : Int) : Int := if farL (x + u) (y + v) then 10 else 0
def adX (x y u v : Int) : Int := if farL (x + u) (y + v) then x else x + u
def adY (x y u v : Int) : Int := if farL (x + u) (y + v) then y else y + v
set_option maxHeartbeats 2000000 in
theorem ladd_c (b : Nat) (c d : Nat) (x y u v : Int) (w : World) (h : Ln w b x y) (hc : Rep c u) (hd : Rep d v) (hu : Near u v) :
    Calls Try.prog 36 #[.pointer (some ⟨b, 0, none⟩), .complex .f64 c d] w fun e w' => e = .returned (.int .i64 (adE x y u v)) ∧ Ln w' b (adX x y u v) (adY x y u v) ∧ Fr [b] w w' := by
  obtain ⟨re, im, ho, r1, r2, hN⟩ := h
  have hN' := hide hN
  have hu' := hide hu
  obtain ⟨z1, z2, hs, q1, q2⟩ := csum_rep r1 r2 hc hd (by unfold Near at *; omega) (by unfold Near at *; omega)
  have hrun := fun w => run_complex_sum (P := Try.prog) w .add (.inl rfl) 71 .f64 _ _ _ _ z1 z2 hs
  have t1 := hide (fun w' => isTooFar_c z1 (x + u) q1 w')
  have t2 := hide (fun w' => isTooFar_c z2 (y + v) q2 w')
  have hf : farL (x + u) (y + v) = ((decide (1125899906842624 < x + u) || decide (x + u < -1125899906842624)) || (decide (1125899906842624 < y + v) || decide (y + v < -1125899906842624))) := by unfold farL; simp only [Bool.or_assoc]
  have hfar := hide (fun h => near_far (x := x + u) (y := y + v) h)
  have c0 := ho.cell 0 rfl
  have f0 := ho.free 0
  haveI : In b w := ⟨ho.lt⟩
  have hq := hide (And.intro q1 q2)
  have hr := hide (And.intro r1 r2)
  have ho' := hide ho
  clear hs ho hN hu q1 q2 r1 r2
  unfold adE adX adY
  rw [hf]
  rw [hf] at hfar
  clear hf
  generalize (decide (1125899906842624 < x + u) || decide (x + u < -1125899906842624)) = T1 at *
  generalize (decide (1125899906842624 < y + v) || decide (y + v < -1125899906842624)) = T2 at *
  cases T1 <;> cases T2
  all_goals
    simp only [Bool.or_self, Bool.or_true, Bool.true_or, Bool.false_or, Bool.or_false, if_true, Bool.false_eq_true, if_false]
    go_enter Try.func36, Try.ntmps36
    go_wp2_with (go_at_call 45; first
      | ((with_reducible refine seq_gw (t1.out _) ?_); intro g)
      | ((with_reducible refine seq_gw' (t2.out _) ?_); intro g2))
    go_returns
  · refine ⟨rfl, ⟨z1, z2, (ho'.out.ext g2.grown).set 0 _, hq.out.1, hq.out.2, hfar.out rfl⟩, (Fr.of_ext g2.grown).setCell _ _ (.inl (by simp))⟩
  · exact ⟨rfl, ⟨re, im, ho'.out.ext g2.grown, hr.out.1, hr.out.2, hN'.out⟩, Fr.of_ext g2.grown⟩
  · exact ⟨rfl, ⟨re, im, ho'.out.ext g.grown, hr.out.1, hr.out.2, hN'.out⟩, Fr.of_ext g.grown⟩
  · exact ⟨rfl, ⟨re, im, ho'.out.ext g.grown, hr.out.1, hr.out.2, hN'.out⟩, Fr.of_ext g.grown⟩
theorem lp_ok {v n : Int} (hn : okN n) (x y : Int) : lpE v n x y = adE x y (n * tE v) (n * tN v) ∧ lpX v n x y = adX x y (n * tE v) (n * tN v) ∧ lpY v n x y = adY x y (n * tE v) (n * tN v) := by
  unfold lpE lpX lpY adE adX adY
  rw [if_pos hn]
  cases farL (x + n * tE v) (y + n * tN v) <;> simp [hn]
set_option maxHeartbeats 2000000 in
theorem lput_c (v n : Int) (b : Nat) (x y : Int) (w : World) (h : Ln w b x y) :
    Calls Try.prog 23 #[.pointer (some ⟨b, 0, none⟩), .int .i64 v, .int .i64 n] w fun e w' => e = .returned (.int .i64 (lpE v n x y)) ∧ Ln w' b (lpX v n x y) (lpY v n x y) ∧ Fr [b] w w' := by
  by_cases hn : okN n
  · obtain ⟨p, q, hm, r1, r2⟩ := turn_times v n hn
    obtain ⟨b1, b2, b3, b4⟩ := times_le v n hn
    obtain ⟨e1, e2, e3⟩ := lp_ok (v := v) hn x y
    rw [e1, e2, e3]
    have hrun := fun t w => run_complex_mul (P := Try.prog) w t _ _ _ 0 p q hm
    have ht := hide (fun w' => turn_c v w')
    have ha := hide (fun w' (h : Ln w' b x y) => ladd_c b p q x y (n * tE v) (n * tN v) w' h r1 r2 (by unfold Near; omega))
    obtain ⟨hn1, hn2⟩ := hn
    clear hm r1 r2 b1 b2 b3 b4 e1 e2 e3
    generalize n * tE v = u1 at *
    generalize n * tN v = u2 at *
    have hh := hide h
    clear h
    go_enter Try.func23, Try.ntmps23
    go_wp2_with (first
      | (go_at_call 37; (with_reducible refine seq_gw (ht.out _) ?_); intro g)
      | (go_at_call 36; (with_reducible refine (ha.out _ (hh.out.ext g.grown)).mono ?_); rintro ee w2 ⟨rfl, hL2, hF2⟩; replace hL2 := hide hL2; replace hF2 := hide hF2))
    go_returns
    exact ⟨rfl, hL2.out, (Fr.of_ext g.grown).trans hF2.out⟩
  · have e : lpE v n x y = 2 ∧ lpX v n x y = x ∧ lpY v n x y = y := by
      unfold lpE lpX lpY
      rw [if_neg hn, if_neg (fun h => hn h.1), if_neg (fun h => hn h.1)]
      exact ⟨rfl, rfl, rfl⟩
    rw [e.1, e.2.1, e.2.2]
    have hh := hide h
    clear h e
    unfold okN at hn
    by_cases h1 : 1048576 < n
    · go_enter Try.func23, Try.ntmps23
      go_wp2_with fail
      go_returns
      exact ⟨rfl, hh.out, Fr.refl _ _⟩
    · have h2 : n < -1048576 := by omega
      go_enter Try.func23, Try.ntmps23
      go_wp2_with fail
      go_returns
      exact ⟨rfl, hh.out, Fr.refl _ _⟩
theorem lnew_c (w : World) : Calls Try.prog 22 #[] w fun e w' => ∃ b, e = .returned (.pointer (some ⟨b, 0, none⟩)) ∧ Ln w' b 0 0 ∧ w.heap.size ≤ b ∧ Ext w w' := by
  go_enter Try.func22, Try.ntmps22
  go_wp2_with fail
  go_returns
  exact ⟨_, rfl, ⟨0, 0, Ob.new w _ [.complex .f64 0 0], rep0, rep0, by unfold Near; omega⟩, Nat.le_refl _, (Ext.refl w).alloc _⟩
set_option maxHeartbeats 1000000 in
theorem lparts_c (b : Nat) (x y : Int) (w : World) (h : Ln w b x y) : Calls Try.prog 25 #[.pointer (some ⟨b, 0, none⟩)] w fun e w' => e = .returned (.tuple #[.int .i64 x, .int .i64 y]) ∧ Ext w w' := by
  obtain ⟨re, im, ho, r1, r2, hN⟩ := h
  have hp := hide (fun w' => partsOf_c re im x y r1 r2 (by unfold Near at hN; omega) (by unfold Near at hN; omega) w')
  have c0 := ho.cell 0 rfl
  clear ho r1 r2 hN
  go_enter Try.func25, Try.ntmps25
  go_wp2_with (go_at_call 39; (with_reducible refine seq_gw (hp.out _) ?_); intro g)
  go_returns
  exact ⟨rfl, g.grown⟩
set_option maxHeartbeats 2000000 in
theorem lspun_c (q : Int) (b : Nat) (x y : Int) (w : World) (h : Ln w b x y) : Calls Try.prog 26 #[.pointer (some ⟨b, 0, none⟩), .int .i64 q] w fun e w' => ∃ c, e = .returned (.pointer (some ⟨c, 0, none⟩)) ∧ Ln w' c (spE q x y) (spN q x y) ∧ w.heap.size ≤ c ∧ Ext w w' := by
  obtain ⟨re, im, ho, r1, r2, hN⟩ := h
  obtain ⟨p, r, hm, s1, s2⟩ := turn_spun q r1 r2 hN
  have hN2 := hide (sp_near q hN)
  have hrun := fun t w => run_complex_mul (P := Try.prog) w t _ _ _ _ p r hm
  have ht := hide (fun w' => turn_c q w')
  have c0 := ho.cell 0 rfl
  haveI : In b w := ⟨ho.lt⟩
  have hr := hide (And.intro s1 s2)
  clear hm s1 s2 ho r1 r2 hN
  generalize spE q x y = x2 at *
  generalize spN q x y = y2 at *
  go_enter Try.func26, Try.ntmps26
  go_wp2_with fail
  refine wp_region_gw_tail 7 (by kernel_rfl) (by kernel_rfl) ?_
  simp only [List.take_succ_cons, List.take_zero, List.drop_succ_cons, List.drop_zero]
  repeat (go_big_quiet_step ((go_at_call 37; with_reducible exact quiet_gw (ht.out _))))
  refine wpQuiet_nil ?_
  intro g
  go_wp2_with fail
  go_returns
  refine ⟨_, rfl, ⟨p, r, Ob.new g.val _ [.complex .f64 p r], hr.out.1, hr.out.2, hN2.out⟩, g.grown.size, g.grown.alloc _⟩
set_option maxHeartbeats 2000000 in
theorem ljoin_c (b c : Nat) (x y u v : Int) (w : World) (h : Ln w b x y) (k : Ln w c u v) :
    Calls Try.prog 31 #[.pointer (some ⟨b, 0, none⟩), .pointer (some ⟨c, 0, none⟩)] w fun e w' => e = .returned (.int .i64 (adE x y u v)) ∧ Ln w' b (adX x y u v) (adY x y u v) ∧ Fr [b] w w' := by
  obtain ⟨re, im, ho, r1, r2, hN⟩ := k
  have ha := hide (ladd_c b re im x y u v w h r1 r2 hN)
  have c0 := ho.cell 0 rfl
  clear h ho r1 r2 hN
  generalize adE x y u v = E at *
  generalize adX x y u v = X at *
  generalize adY x y u v = Y at *
  go_enter Try.func31, Try.ntmps31
  go_wp2_with (go_at_call 36; (with_reducible refine ha.out.mono ?_); rintro ee w2 ⟨rfl, hL2, hF2⟩; replace hL2 := hide hL2; replace hF2 := hide hF2)
  go_returns
  exact ⟨rfl, hL2.out, hF2.out⟩
end Go.Proofs.Ytnneicdphlidhaa
