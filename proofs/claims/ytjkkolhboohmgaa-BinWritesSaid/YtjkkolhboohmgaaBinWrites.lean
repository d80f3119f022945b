/-
  Layer 3 (bin), 3.1: for every number and text the bytes that are made are those that the document says. No condition.
-/
import Derived.Test.YtjkkolhboohmgaaBinL
import Derived.Test.YtjkkolhboohmgaaReg
import Derived.Test.YtjkkolhboohmgaaArg
import Derived.WalkKit
import Derived.ProofKit
import Derived.OpenShut
import Derived.ShutString
import Derived.ChangeOld
import Derived.Below
import Derived.Lib.SmallJoins
import Derived.SizedLaws
import Derived.Deep.CondSized
import Derived.JoinedCond
set_option linter.unusedVariables false
set_option linter.unusedSimpArgs false
namespace Go.Proofs.Ytjkkolhboohmgaa.binWrites
open Go.ChangeShapes Go.WideShapes Go.ChangeAt Go.RowKit Go.Joins
open Go.ChangeMaps (open_string shut_string)
attribute [local go_sem] GW.cell GW.frozen In.eq_true In.le_true In.ne In.ne' In.ne_add In.ne_add' In.lt_add Upto.le_true Upto.le_add Upto.lt_add
attribute [-go_sem] sliced
attribute [local go_sem] sliced_eq

def L (n : Int) (s : ByteArray) : List Fact := [(.is (.bool true)), (.is (.bool true)), (.is (.int .i64 n)), (.bytes (numB n)), (.is (.string ⟨(numB n).toArray⟩)), (.is (.int .i64 n)), (.bytes (numB n)), (.is (.string ⟨(numB n).toArray⟩)), (.is (.bool true)), (.is (.bool true)), (.is (.bool true)), (.is (.int .i64 n)), (.bytes (intB n)), (.is (.string ⟨(intB n).toArray⟩)), (.is (.int .i64 n)), (.bytes (intB n)), (.is (.string ⟨(intB n).toArray⟩)), (.is (.bool true)), (.is (.bool true)), (.is (.bool true)), (.is (.string s)), (.bytes (textB s.data.toList)), (.is (.string ⟨(textB s.data.toList).toArray⟩)), (.is (.string s)), (.bytes (textB s.data.toList)), (.is (.string ⟨(textB s.data.toList).toArray⟩)), (.is (.bool true)), (.is (.bool true)), (.is (.bool true))]
set_option maxHeartbeats 2000000 in
set_option maxRecDepth 100000 in
theorem walk (n : Int) (s : ByteArray) (hn : -9223372036854775808 ≤ n ∧ n ≤ 9223372036854775807) (hs : s.size ≤ 140737488355000) (w : World) : Calls Try.prog 3 #[.int .i64 n, .string s] w fun e w' => e = .returned (.bool true) ∧ Ext w w' := by
  go_enter Try.func3, Try.ntmps3
  go_wp2_with fail
  refine wp_region_list (L n s) (by kernel_rfl) (by kernel_rfl) (by kernel_rfl) ?_ ?_
  · refine ⟨?_, ?_, ?_, ?_, ?_, ?_, ?_, ?_, ?_, ?_, ?_, ?_, ?_, ?_, ?_, ?_, ?_, ?_, ?_, ?_, ?_, ?_, ?_, ?_, ?_, ?_, ?_, ?_, ?_, trivial⟩
    · intro b w' h
      refine good_call (wanted_none rfl) rfl (enters Try.func6 (by kernel_rfl) rfl) ?_
      rw [show (#[] : Array Operand).map b.eval = #[] by simp [Act.eval]]
      exact (live_c _).mono fun e w1 ⟨he, hx⟩ => ⟨_, he, rfl, hx⟩
    · intro b w' h
      have f5 : b.tmps.getD 5 undef = .bool true := h.dep 0 _ 5 (by kernel_rfl) rfl rfl
      exact good_move (wanted_none rfl) rfl f5
    · intro b w' h
      have f6 : b.tmps.getD 6 undef = .bool true := h.dep 1 _ 6 (by kernel_rfl) rfl rfl
      have f0 : b.tmps.getD 0 undef = .int .i64 n := h.else_ 0 (of_decide_eq_true (by kernel_rfl))
      exact good_move (wanted_yes rfl rfl f6) rfl f0
    · intro b w' h
      have f6 : b.tmps.getD 6 undef = .bool true := h.dep 1 _ 6 (by kernel_rfl) rfl rfl
      have f7 : b.tmps.getD 7 undef = .int .i64 n := h.dep 2 _ 7 (by kernel_rfl) rfl rfl
      refine good_call (wanted_yes rfl rfl f6) rfl (enters Try.func7 (by kernel_rfl) rfl) ?_
      rw [show (#[.tmp 7] : Array Operand).map b.eval = #[.int .i64 n] by simp [Act.eval, f7]]
      exact (num_c n hn.2 _).mono fun e w1 ⟨v, he, ho, hx⟩ => ⟨v, he, Sl.own ho (by simp), hx⟩
    · intro b w' h
      have f6 : b.tmps.getD 6 undef = .bool true := h.dep 1 _ 6 (by kernel_rfl) rfl rfl
      have f8 := h.dep 3 _ 8 (by kernel_rfl) rfl rfl
      exact good_convert (wanted_yes rfl rfl f6) rfl (run_str Try.underlying23 Try.underlying5 Try.underlying9 f8) rfl
    · intro b w' h
      have f6 : b.tmps.getD 6 undef = .bool true := h.dep 1 _ 6 (by kernel_rfl) rfl rfl
      have f0 : b.tmps.getD 0 undef = .int .i64 n := h.else_ 0 (of_decide_eq_true (by kernel_rfl))
      exact good_move (wanted_yes rfl rfl f6) rfl f0
    · intro b w' h
      have f6 : b.tmps.getD 6 undef = .bool true := h.dep 1 _ 6 (by kernel_rfl) rfl rfl
      have f10 : b.tmps.getD 10 undef = .int .i64 n := h.dep 5 _ 10 (by kernel_rfl) rfl rfl
      refine good_call (wanted_yes rfl rfl f6) rfl (enters Try.func8 (by kernel_rfl) rfl) ?_
      rw [show (#[.tmp 10] : Array Operand).map b.eval = #[.int .i64 n] by simp [Act.eval, f10]]
      exact (refNum_c n hn.2 _).mono fun e w1 ⟨v, he, ho, hx⟩ => ⟨v, he, Sl.own ho (by simp), hx⟩
    · intro b w' h
      have f6 : b.tmps.getD 6 undef = .bool true := h.dep 1 _ 6 (by kernel_rfl) rfl rfl
      have f11 := h.dep 6 _ 11 (by kernel_rfl) rfl rfl
      exact good_convert (wanted_yes rfl rfl f6) rfl (run_str Try.underlying23 Try.underlying5 Try.underlying9 f11) rfl
    · intro b w' h
      have f6 : b.tmps.getD 6 undef = .bool true := h.dep 1 _ 6 (by kernel_rfl) rfl rfl
      have f9 : b.tmps.getD 9 undef = .string ⟨(numB n).toArray⟩ := h.dep 4 _ 9 (by kernel_rfl) rfl rfl
      have f12 : b.tmps.getD 12 undef = .string ⟨(numB n).toArray⟩ := h.dep 7 _ 12 (by kernel_rfl) rfl rfl
      exact good_bin (wanted_yes rfl rfl f6) rfl f9 f12 (by exact guard_str _) (by exact run_eql_str Try.underlying9 _ _) rfl
    · intro b w' h
      have f6 : b.tmps.getD 6 undef = .bool true := h.dep 1 _ 6 (by kernel_rfl) rfl rfl
      have f13 : b.tmps.getD 13 undef = .bool true := h.dep 8 _ 13 (by kernel_rfl) rfl rfl
      exact good_pick (wanted_none rfl) rfl f6 f13
    · intro b w' h
      have f14 : b.tmps.getD 14 undef = .bool true := h.dep 9 _ 14 (by kernel_rfl) rfl rfl
      exact good_move (wanted_none rfl) rfl f14
    · intro b w' h
      have f15 : b.tmps.getD 15 undef = .bool true := h.dep 10 _ 15 (by kernel_rfl) rfl rfl
      have f0 : b.tmps.getD 0 undef = .int .i64 n := h.else_ 0 (of_decide_eq_true (by kernel_rfl))
      exact good_move (wanted_yes rfl rfl f15) rfl f0
    · intro b w' h
      have f15 : b.tmps.getD 15 undef = .bool true := h.dep 10 _ 15 (by kernel_rfl) rfl rfl
      have f16 : b.tmps.getD 16 undef = .int .i64 n := h.dep 11 _ 16 (by kernel_rfl) rfl rfl
      refine good_call (wanted_yes rfl rfl f15) rfl (enters Try.func9 (by kernel_rfl) rfl) ?_
      rw [show (#[.tmp 16] : Array Operand).map b.eval = #[.int .i64 n] by simp [Act.eval, f16]]
      exact (int_c n hn _).mono fun e w1 ⟨v, he, ho, hx⟩ => ⟨v, he, Sl.own ho (by simp), hx⟩
    · intro b w' h
      have f15 : b.tmps.getD 15 undef = .bool true := h.dep 10 _ 15 (by kernel_rfl) rfl rfl
      have f17 := h.dep 12 _ 17 (by kernel_rfl) rfl rfl
      exact good_convert (wanted_yes rfl rfl f15) rfl (run_str Try.underlying23 Try.underlying5 Try.underlying9 f17) rfl
    · intro b w' h
      have f15 : b.tmps.getD 15 undef = .bool true := h.dep 10 _ 15 (by kernel_rfl) rfl rfl
      have f0 : b.tmps.getD 0 undef = .int .i64 n := h.else_ 0 (of_decide_eq_true (by kernel_rfl))
      exact good_move (wanted_yes rfl rfl f15) rfl f0
    · intro b w' h
      have f15 : b.tmps.getD 15 undef = .bool true := h.dep 10 _ 15 (by kernel_rfl) rfl rfl
      have f19 : b.tmps.getD 19 undef = .int .i64 n := h.dep 14 _ 19 (by kernel_rfl) rfl rfl
      refine good_call (wanted_yes rfl rfl f15) rfl (enters Try.func10 (by kernel_rfl) rfl) ?_
      rw [show (#[.tmp 19] : Array Operand).map b.eval = #[.int .i64 n] by simp [Act.eval, f19]]
      exact (refInt_c n hn _).mono fun e w1 ⟨v, he, ho, hx⟩ => ⟨v, he, Sl.own ho (by simp), hx⟩
    · intro b w' h
      have f15 : b.tmps.getD 15 undef = .bool true := h.dep 10 _ 15 (by kernel_rfl) rfl rfl
      have f20 := h.dep 15 _ 20 (by kernel_rfl) rfl rfl
      exact good_convert (wanted_yes rfl rfl f15) rfl (run_str Try.underlying23 Try.underlying5 Try.underlying9 f20) rfl
    · intro b w' h
      have f15 : b.tmps.getD 15 undef = .bool true := h.dep 10 _ 15 (by kernel_rfl) rfl rfl
      have f18 : b.tmps.getD 18 undef = .string ⟨(intB n).toArray⟩ := h.dep 13 _ 18 (by kernel_rfl) rfl rfl
      have f21 : b.tmps.getD 21 undef = .string ⟨(intB n).toArray⟩ := h.dep 16 _ 21 (by kernel_rfl) rfl rfl
      exact good_bin (wanted_yes rfl rfl f15) rfl f18 f21 (by exact guard_str _) (by exact run_eql_str Try.underlying9 _ _) rfl
    · intro b w' h
      have f15 : b.tmps.getD 15 undef = .bool true := h.dep 10 _ 15 (by kernel_rfl) rfl rfl
      have f22 : b.tmps.getD 22 undef = .bool true := h.dep 17 _ 22 (by kernel_rfl) rfl rfl
      exact good_pick (wanted_none rfl) rfl f15 f22
    · intro b w' h
      have f23 : b.tmps.getD 23 undef = .bool true := h.dep 18 _ 23 (by kernel_rfl) rfl rfl
      exact good_move (wanted_none rfl) rfl f23
    · intro b w' h
      have f24 : b.tmps.getD 24 undef = .bool true := h.dep 19 _ 24 (by kernel_rfl) rfl rfl
      have f1 : b.tmps.getD 1 undef = .string s := h.else_ 1 (of_decide_eq_true (by kernel_rfl))
      exact good_move (wanted_yes rfl rfl f24) rfl f1
    · intro b w' h
      have f24 : b.tmps.getD 24 undef = .bool true := h.dep 19 _ 24 (by kernel_rfl) rfl rfl
      have f25 : b.tmps.getD 25 undef = .string s := h.dep 20 _ 25 (by kernel_rfl) rfl rfl
      refine good_call (wanted_yes rfl rfl f24) rfl (enters Try.func11 (by kernel_rfl) rfl) ?_
      rw [show (#[.tmp 25] : Array Operand).map b.eval = #[.string s] by simp [Act.eval, f25]]
      exact (text_c s hs _).mono fun e w1 ⟨v, he, ho, hx⟩ => ⟨v, he, Sl.own ho (by simp), hx⟩
    · intro b w' h
      have f24 : b.tmps.getD 24 undef = .bool true := h.dep 19 _ 24 (by kernel_rfl) rfl rfl
      have f26 := h.dep 21 _ 26 (by kernel_rfl) rfl rfl
      exact good_convert (wanted_yes rfl rfl f24) rfl (run_str Try.underlying23 Try.underlying5 Try.underlying9 f26) rfl
    · intro b w' h
      have f24 : b.tmps.getD 24 undef = .bool true := h.dep 19 _ 24 (by kernel_rfl) rfl rfl
      have f1 : b.tmps.getD 1 undef = .string s := h.else_ 1 (of_decide_eq_true (by kernel_rfl))
      exact good_move (wanted_yes rfl rfl f24) rfl f1
    · intro b w' h
      have f24 : b.tmps.getD 24 undef = .bool true := h.dep 19 _ 24 (by kernel_rfl) rfl rfl
      have f28 : b.tmps.getD 28 undef = .string s := h.dep 23 _ 28 (by kernel_rfl) rfl rfl
      refine good_call (wanted_yes rfl rfl f24) rfl (enters Try.func12 (by kernel_rfl) rfl) ?_
      rw [show (#[.tmp 28] : Array Operand).map b.eval = #[.string s] by simp [Act.eval, f28]]
      exact (refText_c s hs _).mono fun e w1 ⟨v, he, ho, hx⟩ => ⟨v, he, Sl.own ho (by simp), hx⟩
    · intro b w' h
      have f24 : b.tmps.getD 24 undef = .bool true := h.dep 19 _ 24 (by kernel_rfl) rfl rfl
      have f29 := h.dep 24 _ 29 (by kernel_rfl) rfl rfl
      exact good_convert (wanted_yes rfl rfl f24) rfl (run_str Try.underlying23 Try.underlying5 Try.underlying9 f29) rfl
    · intro b w' h
      have f24 : b.tmps.getD 24 undef = .bool true := h.dep 19 _ 24 (by kernel_rfl) rfl rfl
      have f27 : b.tmps.getD 27 undef = .string ⟨(textB s.data.toList).toArray⟩ := h.dep 22 _ 27 (by kernel_rfl) rfl rfl
      have f30 : b.tmps.getD 30 undef = .string ⟨(textB s.data.toList).toArray⟩ := h.dep 25 _ 30 (by kernel_rfl) rfl rfl
      exact good_bin (wanted_yes rfl rfl f24) rfl f27 f30 (by exact guard_str _) (by exact run_eql_str Try.underlying9 _ _) rfl
    · intro b w' h
      have f24 : b.tmps.getD 24 undef = .bool true := h.dep 19 _ 24 (by kernel_rfl) rfl rfl
      have f31 : b.tmps.getD 31 undef = .bool true := h.dep 26 _ 31 (by kernel_rfl) rfl rfl
      exact good_pick (wanted_none rfl) rfl f24 f31
    · intro b w' h
      have f32 : b.tmps.getD 32 undef = .bool true := h.dep 27 _ 32 (by kernel_rfl) rfl rfl
      exact good_assign (wanted_none rfl) rfl f32
  · intro b w' hx hd hz he hf
    have f4 : b.tmps.getD 4 undef = .bool true := hf 28 _ 4 rfl rfl
    replace hd : b.defers = [] := hd
    clear hf he hz
    go_wp2_with fail
    exact ret_one Try.results3 f4 hd ⟨rfl, hx⟩
theorem own : ownKnob Try.prog.godebug = none := by kernel_rfl
theorem laidOut : laidOutB Try.prog = true := by kernel_rfl
set_option maxRecDepth 100000 in
theorem lifted (os : Os) (started : os.Started) (H : Type) (enc : TypeId × Value → H) :
    ReturnsInHanded {} Try.checked os 3 .any (Rows.binWritesSpec.pre6 enc Try.prog Try.f3 Rows.binWritesRow.domain false) (Rows.binWritesSpec.post enc Try.prog Try.f3 false true false false) := by
  refine returnsInHanded_of_change_sized (C := Try.checked) own started (by kernel_rfl) Try.func3
    (ChangeSpec.witness6 (enc := enc) (C := Try.checked) false ⟨#[], #[.int .i64 0, .string ByteArray.empty], []⟩ 8 (by kernel_rfl) (by kernel_rfl) (by kernel_rfl) (by kernel_rfl)) ?_
  intro W base args ds gs before hval0 hW hcnd hsz0 _
  have hsz : (DataW.weightsEach Try.prog (Try.f3.params.toList ++ Rows.binWritesSpec.plain.varTypes Try.prog) (ds ++ gs)).all (· ≤ reachBytes) = true := hsz0
  clear hsz0
  have hval : ∀ (j : Nat) t v, Try.f3.params[j]? = some t → args[j]? = some v → Value.okWide Try.prog W .any base t v := hval0
  have hW' := hW
  obtain ⟨p, q, hA0, hV, rfl, hfz, hnd⟩ := hW
  have hA : DataW.TrodAll enc Try.prog W 0 (fun _ => true) true Try.f3.params.toList args.toList ds p := hA0
  rw [Try.params3] at hA hval hsz
  obtain ⟨v0, vs0, d0, ds0, p0, q0, hargs, rfl, rfl, h0, r0⟩ := trodAll_cons hA
  obtain ⟨v1, vs1, d1, ds1, p1, q1, rfl, rfl, rfl, h1, r1⟩ := trodAll_cons r0
  obtain ⟨rfl, rfl, rfl⟩ := trodAll_nil r1
  obtain rfl : args = #[v0, v1] := by cases args; simp_all
  obtain ⟨rfl, rfl⟩ := trodVars_none hV
  have k0 := h0
  have lt0 : ∀ x ∈ p0, x.block < W.heap.size := by obtain ⟨m, hm⟩ := k0; exact DataW.trod_lt m _ _ _ hm
  obtain ⟨n, rfl, _, _, wn⟩ := open_int Try.underlying3 (hval 0 3 v0 rfl rfl) h0
  have hn := wf_i64 wn
  have k1 := h1
  have lt1 : ∀ x ∈ p1, x.block < W.heap.size := by obtain ⟨m, hm⟩ := k1; exact DataW.trod_lt m _ _ _ hm
  obtain ⟨s, rfl, es, _, ws⟩ := open_string Try.underlying9 (hval 1 9 v1 rfl rfl) h1
  subst es
  have zs : s.size ≤ 140737488351232 := sized_text hsz (j := 1) (t := 9) rfl rfl
  clear hA0 hval0
  refine (walk n s hn (by omega) W).mono fun e W' ⟨he, bel⟩ => ?_
  subst he
  exact ⟨_, rfl, _, _, _, [], _, [], hW', trodAll_mk1 (shut_bool Try.underlying4 _), (trodAll_cons_mk (Below.trod laidOut (by kernel_rfl) (of_decide_eq_true (by kernel_rfl)) k0 bel lt0) (trodAll_cons_mk (Below.trod laidOut (by kernel_rfl) (of_decide_eq_true (by kernel_rfl)) k1 bel lt1) trodAll_mk0)), rfl, bel.frame _, fun h => by cases h⟩

theorem over : Rows.binWritesRow.holds Try.pinned (OpenSpec.ofChange Rows.binWritesSpec) :=
  OpenClaim.holds_of_wide 3 Try.f3 rfl rfl rfl rfl rfl rfl rfl ⟨rfl, rfl, rfl, rfl, rfl⟩ rfl rfl rfl rfl rfl (by kernel_rfl) Try.func3 (by kernel_rfl)
    (of_decide_eq_true (by kernel_rfl)) (by unfold Func.isWrapper; first | (rw [if_pos (by decide +kernel)]; kernel_rfl) | (rw [if_neg (by decide +kernel)]; exact ⟨rfl, rfl⟩))
    (fun os started H enc _ => lifted os started H enc)

theorem binWrites_holds : Rows.BinWritesSaid := over
end Go.Proofs.Ytjkkolhboohmgaa.binWrites
