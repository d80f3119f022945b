/-
  Layer 6 (row), 6.1, 6.4: the order of rows is one: for every three rows it is the document's, the other way round it has the other sign, and it goes on over three. No condition.
-/
import Derived.Test.YtpfcmlmljolplaaRowL
import Derived.Test.YtpfcmlmljolplaaArgV
import Derived.WalkKit
import Derived.ProofKit
import Derived.OpenShut
import Derived.ShutString
import Derived.ChangeOld
import Derived.Below
import Derived.Lib.SmallJoins
import Derived.SizedLaws
import Derived.Deep.CondSized
import Derived.JoinedCond
set_option linter.unusedVariables false
set_option linter.unusedSimpArgs false
namespace Go.Proofs.Ytpfcmlmljolplaa.rowOrder
open Go.ChangeShapes Go.WideShapes Go.ChangeAt Go.RowKit Go.Joins
open Go.ChangeMaps (open_string shut_string)
attribute [local go_sem] GW.cell GW.frozen In.eq_true In.le_true In.ne In.ne' In.ne_add In.ne_add' In.lt_add Upto.le_true Upto.le_add Upto.lt_add

abbrev CV (f : FuncId) (w : World) (u v : Value) (x : Int) : Prop := ∀ w', Ext w w' → Calls Try.prog f #[u, v] w' fun e w'' => e = .returned (.int .i64 x) ∧ Ext w' w''
abbrev MV (f : FuncId) (w : World) (u : Value) (b : Bool) : Prop := ∀ w', Ext w w' → Calls Try.prog f #[u] w' fun e w'' => e = .returned (.bool b) ∧ Ext w' w''
set_option maxHeartbeats 8000000 in
set_option maxRecDepth 100000 in
theorem some_not (v1 v2 v3 : Value) (w : World) (x : Int) (b1 b2 b3 : Bool) (hx : x = -1 ∨ x = 0 ∨ x = 1) (hb : b1 = false ∨ (b1 = true ∧ b2 = false) ∨ (b1 = true ∧ b2 = true ∧ b3 = false))
    (hab : Hid (CV 13 w v1 v2 x)) (rab : Hid (CV 14 w v1 v2 x)) (hba : Hid (CV 13 w v2 v1 (-x))) (ma : Hid (MV 15 w v1 b1)) (mb : Hid (MV 15 w v2 b2)) (mc : Hid (MV 15 w v3 b3)) (ra : Hid (MV 16 w v1 b1)) :
    Calls Try.prog 3 #[v1, v2, v3] w fun e w' => e = .returned (.bool true) ∧ Ext w w' := by
  rcases hx with rfl | rfl | rfl <;> rcases hb with rfl | ⟨rfl, rfl⟩ | ⟨rfl, rfl, rfl⟩
  all_goals
    go_enter Try.func3, Try.ntmps3
    go_wp2_with (first | (go_at_call 13; (first | (with_reducible refine seq_gw' (hab.out _ (by repeat (first | exact Ext.refl _ | with_reducible assumption | refine Ext.alloc ?_ _ | refine Ext.drew ?_ | refine ext_gw ?_ _))) ?_) | (with_reducible refine seq_gw (hab.out _ (by repeat (first | exact Ext.refl _ | with_reducible assumption | refine Ext.alloc ?_ _ | refine Ext.drew ?_ | refine ext_gw ?_ _))) ?_) | (with_reducible refine seq_gw' (hba.out _ (by repeat (first | exact Ext.refl _ | with_reducible assumption | refine Ext.alloc ?_ _ | refine Ext.drew ?_ | refine ext_gw ?_ _))) ?_) | (with_reducible refine seq_gw (hba.out _ (by repeat (first | exact Ext.refl _ | with_reducible assumption | refine Ext.alloc ?_ _ | refine Ext.drew ?_ | refine ext_gw ?_ _))) ?_)); intro g) | (go_at_call 14; (first | (with_reducible refine seq_gw' (rab.out _ (by repeat (first | exact Ext.refl _ | with_reducible assumption | refine Ext.alloc ?_ _ | refine Ext.drew ?_ | refine ext_gw ?_ _))) ?_) | (with_reducible refine seq_gw (rab.out _ (by repeat (first | exact Ext.refl _ | with_reducible assumption | refine Ext.alloc ?_ _ | refine Ext.drew ?_ | refine ext_gw ?_ _))) ?_)); intro g) | (go_at_call 15; (first | (with_reducible refine seq_gw' (ma.out _ (by repeat (first | exact Ext.refl _ | with_reducible assumption | refine Ext.alloc ?_ _ | refine Ext.drew ?_ | refine ext_gw ?_ _))) ?_) | (with_reducible refine seq_gw (ma.out _ (by repeat (first | exact Ext.refl _ | with_reducible assumption | refine Ext.alloc ?_ _ | refine Ext.drew ?_ | refine ext_gw ?_ _))) ?_) | (with_reducible refine seq_gw' (mb.out _ (by repeat (first | exact Ext.refl _ | with_reducible assumption | refine Ext.alloc ?_ _ | refine Ext.drew ?_ | refine ext_gw ?_ _))) ?_) | (with_reducible refine seq_gw (mb.out _ (by repeat (first | exact Ext.refl _ | with_reducible assumption | refine Ext.alloc ?_ _ | refine Ext.drew ?_ | refine ext_gw ?_ _))) ?_) | (with_reducible refine seq_gw' (mc.out _ (by repeat (first | exact Ext.refl _ | with_reducible assumption | refine Ext.alloc ?_ _ | refine Ext.drew ?_ | refine ext_gw ?_ _))) ?_) | (with_reducible refine seq_gw (mc.out _ (by repeat (first | exact Ext.refl _ | with_reducible assumption | refine Ext.alloc ?_ _ | refine Ext.drew ?_ | refine ext_gw ?_ _))) ?_)); intro g) | (go_at_call 16; (first | (with_reducible refine seq_gw' (ra.out _ (by repeat (first | exact Ext.refl _ | with_reducible assumption | refine Ext.alloc ?_ _ | refine Ext.drew ?_ | refine ext_gw ?_ _))) ?_) | (with_reducible refine seq_gw (ra.out _ (by repeat (first | exact Ext.refl _ | with_reducible assumption | refine Ext.alloc ?_ _ | refine Ext.drew ?_ | refine ext_gw ?_ _))) ?_)); intro g) | (go_at_call 17; (first | (with_reducible refine seq_gw' (rowLive_c _) ?_) | (with_reducible refine seq_gw (rowLive_c _) ?_)); intro g))
    go_returns
    exact ⟨by first | rfl | simp, g.grown⟩
set_option maxHeartbeats 8000000 in
set_option maxRecDepth 100000 in
theorem all_may (v1 v2 v3 : Value) (w : World) (x y z : Int) (s : Bool) (hx : (x = -1 ∧ y = -1 ∧ z = -1 ∧ s = false) ∨ (x = -1 ∧ y = 0 ∧ z = -1 ∧ s = false) ∨ (x = 0 ∧ y = -1 ∧ z = -1 ∧ s = true) ∨ (x = 0 ∧ y = 0 ∧ z = 0 ∧ s = true) ∨ (x = 1 ∧ s = false) ∨ (x = -1 ∧ y = 1 ∧ s = false) ∨ (x = 0 ∧ y = 1 ∧ s = true))
    (hab : Hid (CV 13 w v1 v2 x)) (rab : Hid (CV 14 w v1 v2 x)) (hba : Hid (CV 13 w v2 v1 (-x))) (hbc : Hid (CV 13 w v2 v3 y)) (hac : Hid (CV 13 w v1 v3 z)) (ma : Hid (MV 15 w v1 true)) (mb : Hid (MV 15 w v2 true)) (mc : Hid (MV 15 w v3 true)) (ra : Hid (MV 16 w v1 true)) (hq : Hid (∀ w', Ext w w' → Calls Try.prog 18 #[v1, v2] w' fun e w'' => e = .returned (.bool s) ∧ Ext w' w'')) :
    Calls Try.prog 3 #[v1, v2, v3] w fun e w' => e = .returned (.bool true) ∧ Ext w w' := by
  rcases hx with ⟨rfl, rfl, rfl, rfl⟩ | ⟨rfl, rfl, rfl, rfl⟩ | ⟨rfl, rfl, rfl, rfl⟩ | ⟨rfl, rfl, rfl, rfl⟩ | ⟨rfl, rfl⟩ | ⟨rfl, rfl, rfl⟩ | ⟨rfl, rfl, rfl⟩
  all_goals
    go_enter Try.func3, Try.ntmps3
    go_wp2_with (first | (go_at_call 13; (first | (with_reducible refine seq_gw' (hab.out _ (by repeat (first | exact Ext.refl _ | with_reducible assumption | refine Ext.alloc ?_ _ | refine Ext.drew ?_ | refine ext_gw ?_ _))) ?_) | (with_reducible refine seq_gw (hab.out _ (by repeat (first | exact Ext.refl _ | with_reducible assumption | refine Ext.alloc ?_ _ | refine Ext.drew ?_ | refine ext_gw ?_ _))) ?_) | (with_reducible refine seq_gw' (hba.out _ (by repeat (first | exact Ext.refl _ | with_reducible assumption | refine Ext.alloc ?_ _ | refine Ext.drew ?_ | refine ext_gw ?_ _))) ?_) | (with_reducible refine seq_gw (hba.out _ (by repeat (first | exact Ext.refl _ | with_reducible assumption | refine Ext.alloc ?_ _ | refine Ext.drew ?_ | refine ext_gw ?_ _))) ?_) | (with_reducible refine seq_gw' (hbc.out _ (by repeat (first | exact Ext.refl _ | with_reducible assumption | refine Ext.alloc ?_ _ | refine Ext.drew ?_ | refine ext_gw ?_ _))) ?_) | (with_reducible refine seq_gw (hbc.out _ (by repeat (first | exact Ext.refl _ | with_reducible assumption | refine Ext.alloc ?_ _ | refine Ext.drew ?_ | refine ext_gw ?_ _))) ?_) | (with_reducible refine seq_gw' (hac.out _ (by repeat (first | exact Ext.refl _ | with_reducible assumption | refine Ext.alloc ?_ _ | refine Ext.drew ?_ | refine ext_gw ?_ _))) ?_) | (with_reducible refine seq_gw (hac.out _ (by repeat (first | exact Ext.refl _ | with_reducible assumption | refine Ext.alloc ?_ _ | refine Ext.drew ?_ | refine ext_gw ?_ _))) ?_)); intro g) | (go_at_call 14; (first | (with_reducible refine seq_gw' (rab.out _ (by repeat (first | exact Ext.refl _ | with_reducible assumption | refine Ext.alloc ?_ _ | refine Ext.drew ?_ | refine ext_gw ?_ _))) ?_) | (with_reducible refine seq_gw (rab.out _ (by repeat (first | exact Ext.refl _ | with_reducible assumption | refine Ext.alloc ?_ _ | refine Ext.drew ?_ | refine ext_gw ?_ _))) ?_)); intro g) | (go_at_call 15; (first | (with_reducible refine seq_gw' (ma.out _ (by repeat (first | exact Ext.refl _ | with_reducible assumption | refine Ext.alloc ?_ _ | refine Ext.drew ?_ | refine ext_gw ?_ _))) ?_) | (with_reducible refine seq_gw (ma.out _ (by repeat (first | exact Ext.refl _ | with_reducible assumption | refine Ext.alloc ?_ _ | refine Ext.drew ?_ | refine ext_gw ?_ _))) ?_) | (with_reducible refine seq_gw' (mb.out _ (by repeat (first | exact Ext.refl _ | with_reducible assumption | refine Ext.alloc ?_ _ | refine Ext.drew ?_ | refine ext_gw ?_ _))) ?_) | (with_reducible refine seq_gw (mb.out _ (by repeat (first | exact Ext.refl _ | with_reducible assumption | refine Ext.alloc ?_ _ | refine Ext.drew ?_ | refine ext_gw ?_ _))) ?_) | (with_reducible refine seq_gw' (mc.out _ (by repeat (first | exact Ext.refl _ | with_reducible assumption | refine Ext.alloc ?_ _ | refine Ext.drew ?_ | refine ext_gw ?_ _))) ?_) | (with_reducible refine seq_gw (mc.out _ (by repeat (first | exact Ext.refl _ | with_reducible assumption | refine Ext.alloc ?_ _ | refine Ext.drew ?_ | refine ext_gw ?_ _))) ?_)); intro g) | (go_at_call 16; (first | (with_reducible refine seq_gw' (ra.out _ (by repeat (first | exact Ext.refl _ | with_reducible assumption | refine Ext.alloc ?_ _ | refine Ext.drew ?_ | refine ext_gw ?_ _))) ?_) | (with_reducible refine seq_gw (ra.out _ (by repeat (first | exact Ext.refl _ | with_reducible assumption | refine Ext.alloc ?_ _ | refine Ext.drew ?_ | refine ext_gw ?_ _))) ?_)); intro g) | (go_at_call 18; (first | (with_reducible refine seq_gw' (hq.out _ (by repeat (first | exact Ext.refl _ | with_reducible assumption | refine Ext.alloc ?_ _ | refine Ext.drew ?_ | refine ext_gw ?_ _))) ?_) | (with_reducible refine seq_gw (hq.out _ (by repeat (first | exact Ext.refl _ | with_reducible assumption | refine Ext.alloc ?_ _ | refine Ext.drew ?_ | refine ext_gw ?_ _))) ?_)); intro g) | (go_at_call 17; (first | (with_reducible refine seq_gw' (rowLive_c _) ?_) | (with_reducible refine seq_gw (rowLive_c _) ?_)); intro g))
    go_returns
    exact ⟨by first | rfl | simp, g.grown⟩
set_option maxHeartbeats 4000000 in
theorem walk (a b c : List Vl) (v1 v2 v3 : Value) (w : World) (ha : Rw w [] v1 a) (hb : Rw w [] v2 b) (hc : Rw w [] v3 c) : Calls Try.prog 3 #[v1, v2, v3] w fun e w' => e = .returned (.bool true) ∧ Ext w w' := by
  have hab := hide (fun w' (hX : Ext w w') => rowCompare_c (Sl.ext ha hX) (Sl.ext hb hX))
  have rab := hide (fun w' (hX : Ext w w') => refRowCompare_c (Sl.ext ha hX) (Sl.ext hb hX))
  have hba := hide (fun w' (hX : Ext w w') => rowCompare_c (Sl.ext hb hX) (Sl.ext ha hX))
  have hbc := hide (fun w' (hX : Ext w w') => rowCompare_c (Sl.ext hb hX) (Sl.ext hc hX))
  have hac := hide (fun w' (hX : Ext w w') => rowCompare_c (Sl.ext ha hX) (Sl.ext hc hX))
  have ma := hide (fun w' (hX : Ext w w') => rowMay_c a v1 w' (Sl.ext ha hX))
  have mb := hide (fun w' (hX : Ext w w') => rowMay_c b v2 w' (Sl.ext hb hX))
  have mc := hide (fun w' (hX : Ext w w') => rowMay_c c v3 w' (Sl.ext hc hX))
  have ra := hide (fun w' (hX : Ext w w') => refRowMay_c a v1 w' (Sl.ext ha hX))
  have hq := hide (fun w' (hX : Ext w w') => refRowSame_c (Sl.ext ha hX) (Sl.ext hb hX))
  rw [cmpR_swap a b] at hba
  have hr : cmpR a b = -1 ∨ cmpR a b = 0 ∨ cmpR a b = 1 := by
    unfold cmpR; split
    · exact cmpT_range a b
    · exact .inr (.inl rfl)
  by_cases h : (mayR a && (mayR b && mayR c)) = true
  · simp only [Bool.and_eq_true] at h
    obtain ⟨h1, h2, h3⟩ := h
    have e1 : cmpR a b = cmpT a b := by unfold cmpR; rw [h1, h2]; rfl
    have e2 : cmpR b c = cmpT b c := by unfold cmpR; rw [h2, h3]; rfl
    have e3 : cmpR a c = cmpT a c := by unfold cmpR; rw [h1, h3]; rfl
    have m1 := (mayR_iff.1 h1).2
    have m2 := (mayR_iff.1 h2).2
    have m3 := (mayR_iff.1 h3).2
    have ht := cmpT_trans a b c m1 m2 m3
    have hz := cmpT_zero a b m1 m2
    have r1 := cmpT_range a b
    have r2 := cmpT_range b c
    rw [e1] at hab rab hba
    rw [e2] at hbc
    rw [e3] at hac
    rw [h1] at ma ra
    rw [h2] at mb
    rw [h3] at mc
    refine all_may v1 v2 v3 w _ _ _ _ ?_ hab rab hba hbc hac ma mb mc ra hq
    by_cases hE : a = b
    · have hx := hz.2 hE
      rw [decide_eq_true hE]
      rcases r2 with e | e | e
      · have := ht (by omega) (by omega); right; right; left; exact ⟨by omega, by omega, by omega, rfl⟩
      · have := ht (by omega) (by omega); right; right; right; left; exact ⟨by omega, by omega, by omega, rfl⟩
      · right; right; right; right; right; right; exact ⟨hx, e, rfl⟩
    · have hx := mt hz.1 hE
      rw [decide_eq_false hE]
      rcases r1 with e | e | e
      · rcases r2 with k | k | k
        · have := ht (by omega) (by omega); left; exact ⟨by omega, by omega, by omega, rfl⟩
        · have := ht (by omega) (by omega); right; left; exact ⟨by omega, by omega, by omega, rfl⟩
        · right; right; right; right; right; left; exact ⟨e, k, rfl⟩
      · exact absurd e hx
      · right; right; right; right; left; exact ⟨e, rfl⟩
  · refine some_not v1 v2 v3 w _ _ _ _ hr ?_ hab rab hba ma mb mc ra
    cases h1 : mayR a
    · exact .inl rfl
    · cases h2 : mayR b
      · exact .inr (.inl ⟨rfl, rfl⟩)
      · cases h3 : mayR c
        · exact .inr (.inr ⟨rfl, rfl, rfl⟩)
        · rw [h1, h2, h3] at h; exact absurd rfl h

theorem own : ownKnob Try.prog.godebug = none := by kernel_rfl
theorem laidOut : laidOutB Try.prog = true := by kernel_rfl
set_option maxRecDepth 100000 in
theorem lifted (os : Os) (started : os.Started) (H : Type) (enc : TypeId × Value → H) :
    ReturnsInHanded {} Try.checked os 3 .any (Rows.rowOrderSpec.pre6 enc Try.prog Try.f3 Rows.rowOrderRow.domain false) (Rows.rowOrderSpec.post enc Try.prog Try.f3 false true false false) := by
  refine returnsInHanded_of_change_sized (C := Try.checked) own started (by kernel_rfl) Try.func3
    (ChangeSpec.witness6 (enc := enc) (C := Try.checked) false ⟨#[], #[.slice none 0 0, .slice none 0 0, .slice none 0 0], []⟩ 8 (by kernel_rfl) (by kernel_rfl) (by kernel_rfl) (by kernel_rfl)) ?_
  intro W base args ds gs before hval0 hW hcnd hsz0 _
  have hsz : (DataW.weightsEach Try.prog (Try.f3.params.toList ++ Rows.rowOrderSpec.plain.varTypes Try.prog) (ds ++ gs)).all (· ≤ reachBytes) = true := hsz0
  clear hsz0
  have hval : ∀ (j : Nat) t v, Try.f3.params[j]? = some t → args[j]? = some v → Value.okWide Try.prog W .any base t v := hval0
  have hW' := hW
  obtain ⟨p, q, hA0, hV, rfl, hfz, hnd⟩ := hW
  have hA : DataW.TrodAll enc Try.prog W 0 (fun _ => true) true Try.f3.params.toList args.toList ds p := hA0
  rw [Try.params3] at hA hval hsz
  obtain ⟨v0, vs0, d0, ds0, p0, q0, hargs, rfl, rfl, h0, r0⟩ := trodAll_cons hA
  obtain ⟨v1, vs1, d1, ds1, p1, q1, rfl, rfl, rfl, h1, r1⟩ := trodAll_cons r0
  obtain ⟨v2, vs2, d2, ds2, p2, q2, rfl, rfl, rfl, h2, r2⟩ := trodAll_cons r1
  obtain ⟨rfl, rfl, rfl⟩ := trodAll_nil r2
  obtain rfl : args = #[v0, v1, v2] := by cases args; simp_all
  obtain ⟨rfl, rfl⟩ := trodVars_none hV
  have k0 := h0
  have lt0 : ∀ x ∈ p0, x.block < W.heap.size := by obtain ⟨m, hm⟩ := k0; exact DataW.trod_lt m _ _ _ hm
  obtain ⟨A0, n0, c0, rfl⟩ := okWide_slice Try.underlying23 (hval 0 23 v0 rfl rfl)
  have ⟨m0, hm0⟩ := h0
  obtain ⟨a, la, ha, qa⟩ := open_row Try.underlying23 Try.underlying32 (by kernel_rfl) rfl rfl rfl (by kernel_rfl) (by kernel_rfl) (by kernel_rfl) Try.underlying30 Try.underlying3 Try.underlying9 hm0
  have za : a.length * 32 ≤ 140737488351232 := by rw [la]; exact sized_elems hsz (j := 0) (t := 23) (e := 32) rfl rfl Try.underlying23 (by kernel_rfl)
  have k1 := h1
  have lt1 : ∀ x ∈ p1, x.block < W.heap.size := by obtain ⟨m, hm⟩ := k1; exact DataW.trod_lt m _ _ _ hm
  obtain ⟨A1, n1, c1, rfl⟩ := okWide_slice Try.underlying23 (hval 1 23 v1 rfl rfl)
  have ⟨m1, hm1⟩ := h1
  obtain ⟨b, lb, hb, qb⟩ := open_row Try.underlying23 Try.underlying32 (by kernel_rfl) rfl rfl rfl (by kernel_rfl) (by kernel_rfl) (by kernel_rfl) Try.underlying30 Try.underlying3 Try.underlying9 hm1
  have zb : b.length * 32 ≤ 140737488351232 := by rw [lb]; exact sized_elems hsz (j := 1) (t := 23) (e := 32) rfl rfl Try.underlying23 (by kernel_rfl)
  have k2 := h2
  have lt2 : ∀ x ∈ p2, x.block < W.heap.size := by obtain ⟨m, hm⟩ := k2; exact DataW.trod_lt m _ _ _ hm
  obtain ⟨A2, n2, c2, rfl⟩ := okWide_slice Try.underlying23 (hval 2 23 v2 rfl rfl)
  have ⟨m2, hm2⟩ := h2
  obtain ⟨c, lc, hc, qc⟩ := open_row Try.underlying23 Try.underlying32 (by kernel_rfl) rfl rfl rfl (by kernel_rfl) (by kernel_rfl) (by kernel_rfl) Try.underlying30 Try.underlying3 Try.underlying9 hm2
  have zc : c.length * 32 ≤ 140737488351232 := by rw [lc]; exact sized_elems hsz (j := 2) (t := 23) (e := 32) rfl rfl Try.underlying23 (by kernel_rfl)
  clear hA0 hval0
  refine (walk a b c _ _ _ W ha hb hc).mono fun e W' ⟨he, bel⟩ => ?_
  subst he
  exact ⟨_, rfl, _, _, _, [], _, [], hW', trodAll_mk1 (shut_bool Try.underlying4 _), (trodAll_cons_mk (Below.trod laidOut (by kernel_rfl) (of_decide_eq_true (by kernel_rfl)) k0 bel lt0) (trodAll_cons_mk (Below.trod laidOut (by kernel_rfl) (of_decide_eq_true (by kernel_rfl)) k1 bel lt1) (trodAll_cons_mk (Below.trod laidOut (by kernel_rfl) (of_decide_eq_true (by kernel_rfl)) k2 bel lt2) trodAll_mk0))), rfl, bel.frame _, fun h => by cases h⟩

theorem over : Rows.rowOrderRow.holds Try.pinned (OpenSpec.ofChange Rows.rowOrderSpec) :=
  OpenClaim.holds_of_wide 3 Try.f3 rfl rfl rfl rfl rfl rfl rfl ⟨rfl, rfl, rfl, rfl, rfl⟩ rfl rfl rfl rfl rfl (by kernel_rfl) Try.func3 (by kernel_rfl)
    (of_decide_eq_true (by kernel_rfl)) (by unfold Func.isWrapper; first | (rw [if_pos (by decide +kernel)]; kernel_rfl) | (rw [if_neg (by decide +kernel)]; exact ⟨rfl, rfl⟩))
    (fun os started H enc _ => lifted os started H enc)

theorem rowOrder_holds : Rows.RowOrderSaid := over
end Go.Proofs.Ytpfcmlmljolplaa.rowOrder
