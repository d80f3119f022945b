/-
  Layer 18 (eval), 18.2: what a checked expression answers to a row that fits: a value of its kind, or one of three errors: every list of words, schema and row. No condition.
-/
import Derived.Test.YtopgapbipmblbaaEvaU
import Derived.Test.YtopgapbipmblbaaArgV
import Derived.Test.YtopgapbipmblbaaArgC
import Derived.WalkKit
import Derived.ProofKit
import Derived.OpenShut
import Derived.ShutString
import Derived.ChangeOld
import Derived.Below
import Derived.Lib.SmallJoins
import Derived.SizedLaws
import Derived.Deep.CondSized
import Derived.JoinedCond
set_option linter.unusedVariables false
set_option linter.unusedSimpArgs false
namespace Go.Proofs.Ytopgapbipmblbaa.evalTyped
open Go.ChangeShapes Go.WideShapes Go.ChangeAt Go.RowKit Go.Joins
open Go.ChangeMaps (open_string shut_string)
attribute [local go_sem] GW.cell GW.frozen In.eq_true In.le_true In.ne In.ne' In.ne_add In.ne_add' In.lt_add Upto.le_true Upto.le_add Upto.lt_add

set_option maxHeartbeats 4000000 in
set_option maxRecDepth 100000 in
theorem walk (l : List Vl) (s : List Cl) (r : List Vl) (hi : ∀ o ∈ l, inW o) (hri : ∀ v ∈ r, inW v) (v sv rvv : Value) (w : World) (h : Rw w [] v l) (hs : Cw w [] sv s) (hrr : Rw w [] rvv r) : Calls Try.prog 5 #[v, sv, rvv] w fun e w' => e = .returned (.bool true) ∧ Ext w w' := by
  have h1 := hide (fun w' (hX : Ext w w') => check_c s l v sv w' (Sl.ext h hX) (Sl.ext hs hX))
  have h2 := hide (fun w' (hX : Ext w w') => fitsE_c (Sl.ext hs hX) (Sl.ext hrr hX))
  have h3 := hide (fun w' (hX : Ext w w') => eval_c l r hri hi v rvv w' (Sl.ext h hX) (Sl.ext hrr hX))
  have hT : exE (ckF s l) = 0 → fitsE s r = true → ((evX l r).2 = 0 ∧ (evX l r).1.1 = exK (ckF s l)) ∨ mild (evX l r).2 := ev_typedE hri hi
  have hX0 := hide (Ext.refl w)
  obtain ⟨A, cap, rfl, -, -, -⟩ := rw_form h
  obtain ⟨B, scap, rfl, -, -, -⟩ := cw_form hs
  obtain ⟨C, rcap, rfl, -, -, -⟩ := rw_form hrr
  clear h hs hrr hi hri
  generalize exK (ckF s l) = K at *
  generalize exE (ckF s l) = E at *
  generalize fitsE s r = F at *
  obtain ⟨⟨⟨k, n, t⟩, z⟩, he⟩ : ∃ x, x = evX l r := ⟨_, rfl⟩
  rw [← he] at h3 hT
  clear he
  replace h3 := hide (show ∀ w', Ext w w' → Calls Try.prog 16 #[.slice A l.length cap, .slice C r.length rcap] w' fun e w'' => e = .returned (.tuple #[val k n t, .int .i64 z]) ∧ Ext w' w'' from h3.out)
  dsimp only at hT
  by_cases hE : E = 0
  · subst hE
    cases F with
    | false =>
      clear hT
      go_enter Try.func5, Try.ntmps5
      go_wp2_with (first | (go_at_call 21; (with_reducible refine seq_gw (h1.out _ hX0.out) ?_); intro g1) | (go_at_call 22; (with_reducible refine seq_gw' (h2.out _ g1.grown) ?_); intro g2) | (go_at_call 16; (with_reducible refine seq_gw' (h3.out _ g2.grown) ?_); intro g3; have o3 := (Ob.new g3.val 40 [.int .i64 k, .int .i64 n, .string t])) | (go_at_call 20; first | ((with_reducible refine seq_gw (evaLive_c _) ?_); intro g4; (try (have o4 := o3.ext g4.grown; have c0 := o4.cell 0 rfl; haveI : In g3.val.heap.size g4.val := ⟨o4.lt⟩))) | ((with_reducible refine seq_gw' (evaLive_c _) ?_); intro g4)))
      go_returns
      exact ⟨by first | rfl | simp, g2.grown.trans g4.grown⟩
    | true =>
      rcases hT rfl rfl with ⟨rfl, rfl⟩ | hm
      · clear hT
        go_enter Try.func5, Try.ntmps5
        go_wp2_with (first | (go_at_call 21; (with_reducible refine seq_gw (h1.out _ hX0.out) ?_); intro g1) | (go_at_call 22; (with_reducible refine seq_gw' (h2.out _ g1.grown) ?_); intro g2) | (go_at_call 16; (with_reducible refine seq_gw' (h3.out _ g2.grown) ?_); intro g3; have o3 := (Ob.new g3.val 40 [.int .i64 k, .int .i64 n, .string t])) | (go_at_call 20; first | ((with_reducible refine seq_gw (evaLive_c _) ?_); intro g4; (try (have o4 := o3.ext g4.grown; have c0 := o4.cell 0 rfl; haveI : In g3.val.heap.size g4.val := ⟨o4.lt⟩))) | ((with_reducible refine seq_gw' (evaLive_c _) ?_); intro g4)))
        go_returns
        exact ⟨by first | rfl | simp, (g3.grown.alloc _).trans g4.grown⟩
      · have hz : ¬ z = 0 := by rcases hm with h | h | h <;> omega
        have hz' : (z != 0) = true := by simpa using hz
        clear hT hz
        rcases hm with rfl | rfl | rfl <;>
        (go_enter Try.func5, Try.ntmps5
         go_wp2_with (first | (go_at_call 21; (with_reducible refine seq_gw (h1.out _ hX0.out) ?_); intro g1) | (go_at_call 22; (with_reducible refine seq_gw' (h2.out _ g1.grown) ?_); intro g2) | (go_at_call 16; (with_reducible refine seq_gw' (h3.out _ g2.grown) ?_); intro g3; have o3 := (Ob.new g3.val 40 [.int .i64 k, .int .i64 n, .string t])) | (go_at_call 20; first | ((with_reducible refine seq_gw (evaLive_c _) ?_); intro g4; (try (have o4 := o3.ext g4.grown; have c0 := o4.cell 0 rfl; haveI : In g3.val.heap.size g4.val := ⟨o4.lt⟩))) | ((with_reducible refine seq_gw' (evaLive_c _) ?_); intro g4)))
         go_returns
         exact ⟨by first | rfl | simp, (g3.grown.alloc _).trans g4.grown⟩)
  · have hE' : (E != 0) = true := by simpa using hE
    clear hT
    go_enter Try.func5, Try.ntmps5
    go_wp2_with (first | (go_at_call 21; (with_reducible refine seq_gw (h1.out _ hX0.out) ?_); intro g1) | (go_at_call 22; (with_reducible refine seq_gw' (h2.out _ g1.grown) ?_); intro g2) | (go_at_call 16; (with_reducible refine seq_gw' (h3.out _ g2.grown) ?_); intro g3; have o3 := (Ob.new g3.val 40 [.int .i64 k, .int .i64 n, .string t])) | (go_at_call 20; first | ((with_reducible refine seq_gw (evaLive_c _) ?_); intro g4; (try (have o4 := o3.ext g4.grown; have c0 := o4.cell 0 rfl; haveI : In g3.val.heap.size g4.val := ⟨o4.lt⟩))) | ((with_reducible refine seq_gw' (evaLive_c _) ?_); intro g4)))
    go_returns
    exact ⟨by first | rfl | simp, g1.grown.trans g4.grown⟩

theorem own : ownKnob Try.prog.godebug = none := by kernel_rfl
theorem laidOut : laidOutB Try.prog = true := by kernel_rfl
set_option maxRecDepth 100000 in
theorem lifted (os : Os) (started : os.Started) (H : Type) (enc : TypeId × Value → H) :
    ReturnsInHanded {} Try.checked os 5 .any (Rows.evalTypedSpec.pre6 enc Try.prog Try.f5 Rows.evalTypedRow.domain false) (Rows.evalTypedSpec.post enc Try.prog Try.f5 false true false false) := by
  refine returnsInHanded_of_change_sized (C := Try.checked) own started (by kernel_rfl) Try.func5
    (ChangeSpec.witness6 (enc := enc) (C := Try.checked) false ⟨#[], #[.slice none 0 0, .slice none 0 0, .slice none 0 0], []⟩ 8 (by kernel_rfl) (by kernel_rfl) (by kernel_rfl) (by kernel_rfl)) ?_
  intro W base args ds gs before hval0 hW hcnd hsz0 _
  have hsz : (DataW.weightsEach Try.prog (Try.f5.params.toList ++ Rows.evalTypedSpec.plain.varTypes Try.prog) (ds ++ gs)).all (· ≤ reachBytes) = true := hsz0
  clear hsz0
  have hval : ∀ (j : Nat) t v, Try.f5.params[j]? = some t → args[j]? = some v → Value.okWide Try.prog W .any base t v := hval0
  have hW' := hW
  obtain ⟨p, q, hA0, hV, rfl, hfz, hnd⟩ := hW
  have hA : DataW.TrodAll enc Try.prog W 0 (fun _ => true) true Try.f5.params.toList args.toList ds p := hA0
  rw [Try.params5] at hA hval hsz
  obtain ⟨v0, vs0, d0, ds0, p0, q0, hargs, rfl, rfl, h0, r0⟩ := trodAll_cons hA
  obtain ⟨v1, vs1, d1, ds1, p1, q1, rfl, rfl, rfl, h1, r1⟩ := trodAll_cons r0
  obtain ⟨v2, vs2, d2, ds2, p2, q2, rfl, rfl, rfl, h2, r2⟩ := trodAll_cons r1
  obtain ⟨rfl, rfl, rfl⟩ := trodAll_nil r2
  obtain rfl : args = #[v0, v1, v2] := by cases args; simp_all
  obtain ⟨rfl, rfl⟩ := trodVars_none hV
  have k0 := h0
  have lt0 : ∀ x ∈ p0, x.block < W.heap.size := by obtain ⟨m, hm⟩ := k0; exact DataW.trod_lt m _ _ _ hm
  obtain ⟨A0, n0, c0, rfl⟩ := okWide_slice Try.underlying23 (hval 0 23 v0 rfl rfl)
  have ⟨m0, hm0⟩ := h0
  obtain ⟨l, ll, hl, ql⟩ := open_row Try.underlying23 Try.underlying57 (by kernel_rfl) rfl rfl rfl (by kernel_rfl) (by kernel_rfl) (by kernel_rfl) Try.underlying55 Try.underlying3 Try.underlying9 hm0
  have zl : l.length * 32 ≤ 140737488351232 := by rw [ll]; exact sized_elems hsz (j := 0) (t := 23) (e := 57) rfl rfl Try.underlying23 (by kernel_rfl)
  have k1 := h1
  have lt1 : ∀ x ∈ p1, x.block < W.heap.size := by obtain ⟨m, hm⟩ := k1; exact DataW.trod_lt m _ _ _ hm
  obtain ⟨A1, n1, c1, rfl⟩ := okWide_slice Try.underlying47 (hval 1 47 v1 rfl rfl)
  have ⟨m1, hm1⟩ := h1
  obtain ⟨s, ls, hs⟩ := open_cols Try.underlying47 Try.underlying63 (by kernel_rfl) rfl rfl (by kernel_rfl) (by kernel_rfl) Try.underlying9 Try.underlying38 hm1
  have zs : s.length * 24 ≤ 140737488351232 := by rw [ls]; exact sized_elems hsz (j := 1) (t := 47) (e := 63) rfl rfl Try.underlying47 (by kernel_rfl)
  have k2 := h2
  have lt2 : ∀ x ∈ p2, x.block < W.heap.size := by obtain ⟨m, hm⟩ := k2; exact DataW.trod_lt m _ _ _ hm
  obtain ⟨A2, n2, c2, rfl⟩ := okWide_slice Try.underlying37 (hval 2 37 v2 rfl rfl)
  have ⟨m2, hm2⟩ := h2
  obtain ⟨r, lr, hr, qr⟩ := open_row Try.underlying37 Try.underlying40 (by kernel_rfl) rfl rfl rfl (by kernel_rfl) (by kernel_rfl) (by kernel_rfl) Try.underlying38 Try.underlying3 Try.underlying9 hm2
  have zr : r.length * 32 ≤ 140737488351232 := by rw [lr]; exact sized_elems hsz (j := 2) (t := 37) (e := 40) rfl rfl Try.underlying37 (by kernel_rfl)
  clear hA0 hval0
  refine (walk l s r ql qr _ _ _ W hl hs hr).mono fun e W' ⟨he, bel⟩ => ?_
  subst he
  exact ⟨_, rfl, _, _, _, [], _, [], hW', trodAll_mk1 (shut_bool Try.underlying4 _), (trodAll_cons_mk (Below.trod laidOut (by kernel_rfl) (of_decide_eq_true (by kernel_rfl)) k0 bel lt0) (trodAll_cons_mk (Below.trod laidOut (by kernel_rfl) (of_decide_eq_true (by kernel_rfl)) k1 bel lt1) (trodAll_cons_mk (Below.trod laidOut (by kernel_rfl) (of_decide_eq_true (by kernel_rfl)) k2 bel lt2) trodAll_mk0))), rfl, bel.frame _, fun h => by cases h⟩

theorem over : Rows.evalTypedRow.holds Try.pinned (OpenSpec.ofChange Rows.evalTypedSpec) :=
  OpenClaim.holds_of_wide 5 Try.f5 rfl rfl rfl rfl rfl rfl rfl ⟨rfl, rfl, rfl, rfl, rfl⟩ rfl rfl rfl rfl rfl (by kernel_rfl) Try.func5 (by kernel_rfl)
    (of_decide_eq_true (by kernel_rfl)) (by unfold Func.isWrapper; first | (rw [if_pos (by decide +kernel)]; kernel_rfl) | (rw [if_neg (by decide +kernel)]; exact ⟨rfl, rfl⟩))
    (fun os started H enc _ => lifted os started H enc)

theorem evalTyped_holds : Rows.EvalTypedSaid := over
end Go.Proofs.Ytopgapbipmblbaa.evalTyped
