/-
  Layer 18 (eval), 18.1: an expression's answer over a row, whether it holds, or what is wrong, is as the document says: every list of words, and row. No condition.
-/
import Derived.Test.YtopgapbipmblbaaEvaY
import Derived.Test.YtopgapbipmblbaaArgV
import Derived.WalkKit
import Derived.ProofKit
import Derived.OpenShut
import Derived.ShutString
import Derived.ChangeOld
import Derived.Below
import Derived.Lib.SmallJoins
import Derived.SizedLaws
import Derived.Deep.CondSized
import Derived.JoinedCond
set_option linter.unusedVariables false
set_option linter.unusedSimpArgs false
namespace Go.Proofs.Ytopgapbipmblbaa.evalAnswers
open Go.ChangeShapes Go.WideShapes Go.ChangeAt Go.RowKit Go.Joins
open Go.ChangeMaps (open_string shut_string)
attribute [local go_sem] GW.cell GW.frozen In.eq_true In.le_true In.ne In.ne' In.ne_add In.ne_add' In.lt_add Upto.le_true Upto.le_add Upto.lt_add

set_option maxHeartbeats 4000000 in
set_option maxRecDepth 100000 in
theorem walk (l r : List Vl) (hi : ∀ o ∈ l, inW o) (hri : ∀ v ∈ r, inW v) (v rvv : Value) (w : World) (h : Rw w [] v l) (hrr : Rw w [] rvv r) : Calls Try.prog 4 #[v, rvv] w fun e w' => e = .returned (.bool true) ∧ Ext w w' := by
  have h1 := hide (fun w' (hX : Ext w w') => eval_c l r hri hi v rvv w' (Sl.ext h hX) (Sl.ext hrr hX))
  have h2 := hide (fun w' (hX : Ext w w') => refEval_c l r hri hi v rvv w' (Sl.ext h hX) (Sl.ext hrr hX))
  have h3 := hide (fun w' (hX : Ext w w') => holds_c l r hri hi v rvv w' (Sl.ext h hX) (Sl.ext hrr hX))
  have h4 := hide (fun w' (hX : Ext w w') => refHolds_c l r hri hi v rvv w' (Sl.ext h hX) (Sl.ext hrr hX))
  have hX0 := hide (Ext.refl w)
  clear h hrr hi hri
  generalize hoX l r = H at *
  generalize evX l r = Z at *
  obtain ⟨⟨k, n, t⟩, z⟩ := Z
  obtain ⟨hb, hz⟩ := H
  have heq := hide (eq_same k n t)
  replace heq := heq.out
  go_enter Try.func4, Try.ntmps4
  go_wp2_with (first | (go_at_call 16; (with_reducible refine seq_gw (h1.out _ hX0.out) ?_); intro g1; have x1 := hide (g1.grown.alloc (.cells #[.int .i64 k, .int .i64 n, .string t] 40)); have o1 := hide (Ob.new g1.val 40 [.int .i64 k, .int .i64 n, .string t])) | (go_at_call 17; (with_reducible refine seq_gw (h2.out _ x1.out) ?_); intro g2; have x2 := hide ((x1.out.trans g2.grown).alloc (.cells #[.int .i64 k, .int .i64 n, .string t] 40)); have o1b := hide ((o1.out.ext g2.grown).alloc (.cells #[.int .i64 k, .int .i64 n, .string t] 40)); have o2 := hide (Ob.new g2.val 40 [.int .i64 k, .int .i64 n, .string t])) | (go_at_call 18; (with_reducible refine seq_gw (h3.out _ x2.out) ?_); intro g3) | (go_at_call 19; (with_reducible refine seq_gw' (h4.out _ (x2.out.trans g3.grown)) ?_); intro g4) | (go_at_call 20; (with_reducible refine seq_gw' (evaLive_c _) ?_); intro g5; have p1 := o1b.out.ext g5.grown; have p2 := o2.out.ext g5.grown; have q0 := p1.cell 0 rfl; have q1 := p1.cell 1 rfl; have q2 := p1.cell 2 rfl; have r0 := p2.cell 0 rfl; have r1 := p2.cell 1 rfl; have r2 := p2.cell 2 rfl; haveI : In g1.val.heap.size g5.val := ⟨p1.lt⟩; haveI : In g2.val.heap.size g5.val := ⟨p2.lt⟩))
  go_returns
  exact ⟨by first | rfl | simp, x2.out.trans g5.grown⟩

theorem own : ownKnob Try.prog.godebug = none := by kernel_rfl
theorem laidOut : laidOutB Try.prog = true := by kernel_rfl
set_option maxRecDepth 100000 in
theorem lifted (os : Os) (started : os.Started) (H : Type) (enc : TypeId × Value → H) :
    ReturnsInHanded {} Try.checked os 4 .any (Rows.evalAnswersSpec.pre6 enc Try.prog Try.f4 Rows.evalAnswersRow.domain false) (Rows.evalAnswersSpec.post enc Try.prog Try.f4 false true false false) := by
  refine returnsInHanded_of_change_sized (C := Try.checked) own started (by kernel_rfl) Try.func4
    (ChangeSpec.witness6 (enc := enc) (C := Try.checked) false ⟨#[], #[.slice none 0 0, .slice none 0 0], []⟩ 8 (by kernel_rfl) (by kernel_rfl) (by kernel_rfl) (by kernel_rfl)) ?_
  intro W base args ds gs before hval0 hW hcnd hsz0 _
  have hsz : (DataW.weightsEach Try.prog (Try.f4.params.toList ++ Rows.evalAnswersSpec.plain.varTypes Try.prog) (ds ++ gs)).all (· ≤ reachBytes) = true := hsz0
  clear hsz0
  have hval : ∀ (j : Nat) t v, Try.f4.params[j]? = some t → args[j]? = some v → Value.okWide Try.prog W .any base t v := hval0
  have hW' := hW
  obtain ⟨p, q, hA0, hV, rfl, hfz, hnd⟩ := hW
  have hA : DataW.TrodAll enc Try.prog W 0 (fun _ => true) true Try.f4.params.toList args.toList ds p := hA0
  rw [Try.params4] at hA hval hsz
  obtain ⟨v0, vs0, d0, ds0, p0, q0, hargs, rfl, rfl, h0, r0⟩ := trodAll_cons hA
  obtain ⟨v1, vs1, d1, ds1, p1, q1, rfl, rfl, rfl, h1, r1⟩ := trodAll_cons r0
  obtain ⟨rfl, rfl, rfl⟩ := trodAll_nil r1
  obtain rfl : args = #[v0, v1] := by cases args; simp_all
  obtain ⟨rfl, rfl⟩ := trodVars_none hV
  have k0 := h0
  have lt0 : ∀ x ∈ p0, x.block < W.heap.size := by obtain ⟨m, hm⟩ := k0; exact DataW.trod_lt m _ _ _ hm
  obtain ⟨A0, n0, c0, rfl⟩ := okWide_slice Try.underlying23 (hval 0 23 v0 rfl rfl)
  have ⟨m0, hm0⟩ := h0
  obtain ⟨l, ll, hl, ql⟩ := open_row Try.underlying23 Try.underlying57 (by kernel_rfl) rfl rfl rfl (by kernel_rfl) (by kernel_rfl) (by kernel_rfl) Try.underlying55 Try.underlying3 Try.underlying9 hm0
  have zl : l.length * 32 ≤ 140737488351232 := by rw [ll]; exact sized_elems hsz (j := 0) (t := 23) (e := 57) rfl rfl Try.underlying23 (by kernel_rfl)
  have k1 := h1
  have lt1 : ∀ x ∈ p1, x.block < W.heap.size := by obtain ⟨m, hm⟩ := k1; exact DataW.trod_lt m _ _ _ hm
  obtain ⟨A1, n1, c1, rfl⟩ := okWide_slice Try.underlying37 (hval 1 37 v1 rfl rfl)
  have ⟨m1, hm1⟩ := h1
  obtain ⟨r, lr, hr, qr⟩ := open_row Try.underlying37 Try.underlying40 (by kernel_rfl) rfl rfl rfl (by kernel_rfl) (by kernel_rfl) (by kernel_rfl) Try.underlying38 Try.underlying3 Try.underlying9 hm1
  have zr : r.length * 32 ≤ 140737488351232 := by rw [lr]; exact sized_elems hsz (j := 1) (t := 37) (e := 40) rfl rfl Try.underlying37 (by kernel_rfl)
  clear hA0 hval0
  refine (walk l r ql qr _ _ W hl hr).mono fun e W' ⟨he, bel⟩ => ?_
  subst he
  exact ⟨_, rfl, _, _, _, [], _, [], hW', trodAll_mk1 (shut_bool Try.underlying4 _), (trodAll_cons_mk (Below.trod laidOut (by kernel_rfl) (of_decide_eq_true (by kernel_rfl)) k0 bel lt0) (trodAll_cons_mk (Below.trod laidOut (by kernel_rfl) (of_decide_eq_true (by kernel_rfl)) k1 bel lt1) trodAll_mk0)), rfl, bel.frame _, fun h => by cases h⟩

theorem over : Rows.evalAnswersRow.holds Try.pinned (OpenSpec.ofChange Rows.evalAnswersSpec) :=
  OpenClaim.holds_of_wide 4 Try.f4 rfl rfl rfl rfl rfl rfl rfl ⟨rfl, rfl, rfl, rfl, rfl⟩ rfl rfl rfl rfl rfl (by kernel_rfl) Try.func4 (by kernel_rfl)
    (of_decide_eq_true (by kernel_rfl)) (by unfold Func.isWrapper; first | (rw [if_pos (by decide +kernel)]; kernel_rfl) | (rw [if_neg (by decide +kernel)]; exact ⟨rfl, rfl⟩))
    (fun os started H enc _ => lifted os started H enc)

theorem evalAnswers_holds : Rows.EvalAnswersSaid := over
end Go.Proofs.Ytopgapbipmblbaa.evalAnswers
