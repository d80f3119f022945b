/-
  Layer 4 (frame), 4.1: for every bytes, what wraps them is what the document says; bodies that are too long have none. No condition.
-/
import Derived.Test.YtgjdgejljkhnlaaFrL
import Derived.Test.YtgjdgejljkhnlaaReg
import Derived.Test.YtgjdgejljkhnlaaArg
import Derived.WalkKit
import Derived.ProofKit
import Derived.OpenShut
import Derived.ShutString
import Derived.ChangeOld
import Derived.Below
import Derived.Lib.SmallJoins
import Derived.SizedLaws
import Derived.Deep.CondSized
import Derived.JoinedCond
set_option linter.unusedVariables false
set_option linter.unusedSimpArgs false
namespace Go.Proofs.Ytgjdgejljkhnlaa.frameWraps
open Go.ChangeShapes Go.WideShapes Go.ChangeAt Go.RowKit Go.Joins
open Go.ChangeMaps (open_string shut_string)
attribute [local go_sem] GW.cell GW.frozen In.eq_true In.le_true In.ne In.ne' In.ne_add In.ne_add' In.lt_add Upto.le_true Upto.le_add Upto.lt_add
attribute [-go_sem] sliced
attribute [local go_sem] sliced_eq

def L (l : List UInt8) (v1 : Value) (A : Option Addr) (cap : Nat) : List Fact := [(.is (.bool true)), (.is (.bool true)), (.is (.int .i64 0)), (.is (.bool true)), (.is (.bool true)), (.is (.bool true)), (.is (v1)), (.is (.string ⟨(fhead l.length ++ l).toArray⟩)), (.is (.slice A l.length cap)), (.bytes (fhead l.length ++ l)), (.is (.string ⟨(fhead l.length ++ l).toArray⟩)), (.is (.bool true)), (.is (.bool true)), (.is (.bool true))]
set_option maxHeartbeats 2000000 in
set_option maxRecDepth 100000 in
theorem walk (l : List UInt8) (v : Value) (w : World) (hv : By w [] v l) : Calls Try.prog 3 #[v] w fun e w' => e = .returned (.bool true) ∧ Ext w w' := by
  by_cases hl : 4096 < l.length
  · have hw := hide (wrap_long [] l hl v w hv)
    obtain ⟨A, cap, rfl, hlc, hcm, _⟩ := hv
    unfold maxLen at hcm
    have hlI : (4096 : Int) < (l.length : Int) := by omega
    go_enter Try.func3, Try.ntmps3
    go_wp2_with (first | (go_at_call 7; refine hw.out.mono ?_; rintro ee w1 ⟨rfl, rfl⟩) | (go_at_call 8; refine (live_c _).mono ?_; rintro ee wz ⟨rfl, hXz⟩))
    go_returns
    exact ⟨rfl, hXz⟩
  · replace hl : l.length ≤ 4096 := by omega
    have hw := hide (wrap_c [] l hl v w hv)
    obtain ⟨A, cap, rfl, hlc, hcm, _⟩ := id hv
    replace hv := hide hv
    unfold maxLen at hcm
    have hlI : (l.length : Int) ≤ 4096 := by omega
    go_enter Try.func3, Try.ntmps3
    go_wp2_with (go_at_call 7; refine hw.out.mono ?_; rintro ee w1 ⟨v1, rfl, ho1, hX1⟩)
    have hv1 : By w1 [] (.slice A l.length cap) l := Sl.ext hv.out hX1
    replace hv := hv1
    have hcv : ∀ w', Ext w1 w' → (convert 22 9 v1).run Try.prog w' = .ok (.string ⟨(fhead l.length ++ l).toArray⟩) w' := fun w' hx => run_str Try.underlying22 Try.underlying5 Try.underlying9 (Sl.ext (Sl.own (S := []) ho1 (by simp)) hx)
    refine wp_region_list (L l v1 A cap) (by kernel_rfl) (by kernel_rfl) (by kernel_rfl) ?_ ?_
    · refine ⟨?_, ?_, ?_, ?_, ?_, ?_, ?_, ?_, ?_, ?_, ?_, ?_, ?_, ?_, trivial⟩
      · intro b w' h
        refine good_call (wanted_none rfl) rfl (enters Try.func8 (by kernel_rfl) rfl) ?_
        rw [show (#[] : Array Operand).map b.eval = #[] by simp [Act.eval]]
        exact (live_c _).mono fun e w1 ⟨he, hx⟩ => ⟨_, he, rfl, hx⟩
      · intro b w' h
        have f23 : b.tmps.getD 23 undef = .bool true := h.dep 0 _ 23 (by kernel_rfl) rfl rfl
        exact (good_move (wanted_none rfl) rfl f23)
      · intro b w' h
        have f24 : b.tmps.getD 24 undef = .bool true := h.dep 1 _ 24 (by kernel_rfl) rfl rfl
        have f4 : b.tmps.getD 4 undef = .int .i64 0 := h.else_ 4 (of_decide_eq_true (by kernel_rfl))
        exact (good_move (wanted_yes rfl rfl f24) rfl f4)
      · intro b w' h
        have f24 : b.tmps.getD 24 undef = .bool true := h.dep 1 _ 24 (by kernel_rfl) rfl rfl
        have f25 : b.tmps.getD 25 undef = .int .i64 0 := h.dep 2 _ 25 (by kernel_rfl) rfl rfl
        exact (good_bin (wanted_yes rfl rfl f24) rfl f25 rfl (by first | exact guard_int _ | exact guard_str _) (by exact run_eql_int Try.underlying23 _ _ (by rfl) _) rfl)
      · intro b w' h
        have f24 : b.tmps.getD 24 undef = .bool true := h.dep 1 _ 24 (by kernel_rfl) rfl rfl
        have f26 : b.tmps.getD 26 undef = .bool true := h.dep 3 _ 26 (by kernel_rfl) rfl rfl
        exact (good_pick (wanted_none rfl) rfl f24 f26)
      · intro b w' h
        have f27 : b.tmps.getD 27 undef = .bool true := h.dep 4 _ 27 (by kernel_rfl) rfl rfl
        exact (good_move (wanted_none rfl) rfl f27)
      · intro b w' h
        have f28 : b.tmps.getD 28 undef = .bool true := h.dep 5 _ 28 (by kernel_rfl) rfl rfl
        have f3 : b.tmps.getD 3 undef = v1 := h.else_ 3 (of_decide_eq_true (by kernel_rfl))
        exact (good_move (wanted_yes rfl rfl f28) rfl f3)
      · intro b w' h
        have f28 : b.tmps.getD 28 undef = .bool true := h.dep 5 _ 28 (by kernel_rfl) rfl rfl
        have f29 : b.tmps.getD 29 undef = v1 := h.dep 6 _ 29 (by kernel_rfl) rfl rfl
        exact (good_convert (wanted_yes rfl rfl f28) rfl (by rw [show b.eval (.tmp 29) = v1 from f29]; exact hcv _ h.ext) rfl)
      · intro b w' h
        have f28 : b.tmps.getD 28 undef = .bool true := h.dep 5 _ 28 (by kernel_rfl) rfl rfl
        have f0 : b.tmps.getD 0 undef = .slice A l.length cap := h.else_ 0 (of_decide_eq_true (by kernel_rfl))
        exact (good_move (wanted_yes rfl rfl f28) rfl f0)
      · intro b w' h
        have f28 : b.tmps.getD 28 undef = .bool true := h.dep 5 _ 28 (by kernel_rfl) rfl rfl
        have f31 : b.tmps.getD 31 undef = .slice A l.length cap := h.dep 8 _ 31 (by kernel_rfl) rfl rfl
        refine good_call (wanted_yes rfl rfl f28) rfl (enters Try.func9 (by kernel_rfl) rfl) ?_
        rw [show (#[.tmp 31] : Array Operand).map b.eval = #[.slice A l.length cap] by simp [Act.eval, f31]]
        exact (refWrap_c [] l hl _ _ (Sl.ext hv h.ext)).mono fun e w1 ⟨v, he, ho, hx⟩ => ⟨v, he, Sl.own ho (by simp), hx⟩
      · intro b w' h
        have f28 : b.tmps.getD 28 undef = .bool true := h.dep 5 _ 28 (by kernel_rfl) rfl rfl
        have f32 := h.dep 9 _ 32 (by kernel_rfl) rfl rfl
        exact (good_convert (wanted_yes rfl rfl f28) rfl (run_str Try.underlying22 Try.underlying5 Try.underlying9 f32) rfl)
      · intro b w' h
        have f28 : b.tmps.getD 28 undef = .bool true := h.dep 5 _ 28 (by kernel_rfl) rfl rfl
        have f30 : b.tmps.getD 30 undef = .string ⟨(fhead l.length ++ l).toArray⟩ := h.dep 7 _ 30 (by kernel_rfl) rfl rfl
        have f33 : b.tmps.getD 33 undef = .string ⟨(fhead l.length ++ l).toArray⟩ := h.dep 10 _ 33 (by kernel_rfl) rfl rfl
        exact (good_bin (wanted_yes rfl rfl f28) rfl f30 f33 (by first | exact guard_int _ | exact guard_str _) (by exact run_eql_str Try.underlying9 _ _) rfl)
      · intro b w' h
        have f28 : b.tmps.getD 28 undef = .bool true := h.dep 5 _ 28 (by kernel_rfl) rfl rfl
        have f34 : b.tmps.getD 34 undef = .bool true := h.dep 11 _ 34 (by kernel_rfl) rfl rfl
        exact (good_pick (wanted_none rfl) rfl f28 f34)
      · intro b w' h
        have f35 : b.tmps.getD 35 undef = .bool true := h.dep 12 _ 35 (by kernel_rfl) rfl rfl
        exact (good_assign (wanted_none rfl) rfl f35)
    · intro b w' hx hd hz he hf
      have f2 : b.tmps.getD 2 undef = .bool true := hf 13 _ 2 rfl rfl
      replace hd : b.defers = [] := hd
      clear hf he hz
      go_wp2_with fail
      exact ret_one Try.results3 f2 hd ⟨rfl, hX1.trans hx⟩
theorem own : ownKnob Try.prog.godebug = none := by kernel_rfl
theorem laidOut : laidOutB Try.prog = true := by kernel_rfl
set_option maxRecDepth 100000 in
theorem lifted (os : Os) (started : os.Started) (H : Type) (enc : TypeId × Value → H) :
    ReturnsInHanded {} Try.checked os 3 .any (Rows.frameWrapsSpec.pre6 enc Try.prog Try.f3 Rows.frameWrapsRow.domain false) (Rows.frameWrapsSpec.post enc Try.prog Try.f3 false true false false) := by
  refine returnsInHanded_of_change_sized (C := Try.checked) own started (by kernel_rfl) Try.func3
    (ChangeSpec.witness6 (enc := enc) (C := Try.checked) false ⟨#[], #[.slice none 0 0], []⟩ 8 (by kernel_rfl) (by kernel_rfl) (by kernel_rfl) (by kernel_rfl)) ?_
  intro W base args ds gs before hval0 hW hcnd hsz0 _
  have hsz : (DataW.weightsEach Try.prog (Try.f3.params.toList ++ Rows.frameWrapsSpec.plain.varTypes Try.prog) (ds ++ gs)).all (· ≤ reachBytes) = true := hsz0
  clear hsz0
  have hval : ∀ (j : Nat) t v, Try.f3.params[j]? = some t → args[j]? = some v → Value.okWide Try.prog W .any base t v := hval0
  have hW' := hW
  obtain ⟨p, q, hA0, hV, rfl, hfz, hnd⟩ := hW
  have hA : DataW.TrodAll enc Try.prog W 0 (fun _ => true) true Try.f3.params.toList args.toList ds p := hA0
  rw [Try.params3] at hA hval hsz
  obtain ⟨v0, vs0, d0, ds0, p0, q0, hargs, rfl, rfl, h0, r0⟩ := trodAll_cons hA
  obtain ⟨rfl, rfl, rfl⟩ := trodAll_nil r0
  obtain rfl : args = #[v0] := by cases args; simp_all
  obtain ⟨rfl, rfl⟩ := trodVars_none hV
  have k0 := h0
  have lt0 : ∀ x ∈ p0, x.block < W.heap.size := by obtain ⟨m, hm⟩ := k0; exact DataW.trod_lt m _ _ _ hm
  obtain ⟨A0, n0, c0, rfl⟩ := okWide_slice Try.underlying22 (hval 0 22 v0 rfl rfl)
  have ⟨m0, hm0⟩ := h0
  obtain ⟨l, ll, hl⟩ := open_bytes Try.underlying22 Try.underlying5 (by kernel_rfl) hm0
  have zl : l.length ≤ 140737488351232 := by rw [ll]; exact sized_len hsz (j := 0) (t := 22) (e := 5) rfl rfl Try.underlying22 (of_decide_eq_true (by kernel_rfl))
  clear hA0 hval0
  refine (walk l _ W hl).mono fun e W' ⟨he, bel⟩ => ?_
  subst he
  exact ⟨_, rfl, _, _, _, [], _, [], hW', trodAll_mk1 (shut_bool Try.underlying4 _), (trodAll_cons_mk (Below.trod laidOut (by kernel_rfl) (of_decide_eq_true (by kernel_rfl)) k0 bel lt0) trodAll_mk0), rfl, bel.frame _, fun h => by cases h⟩

theorem over : Rows.frameWrapsRow.holds Try.pinned (OpenSpec.ofChange Rows.frameWrapsSpec) :=
  OpenClaim.holds_of_wide 3 Try.f3 rfl rfl rfl rfl rfl rfl rfl ⟨rfl, rfl, rfl, rfl, rfl⟩ rfl rfl rfl rfl rfl (by kernel_rfl) Try.func3 (by kernel_rfl)
    (of_decide_eq_true (by kernel_rfl)) (by unfold Func.isWrapper; first | (rw [if_pos (by decide +kernel)]; kernel_rfl) | (rw [if_neg (by decide +kernel)]; exact ⟨rfl, rfl⟩))
    (fun os started H enc _ => lifted os started H enc)

theorem frameWraps_holds : Rows.FrameWrapsSaid := over
end Go.Proofs.Ytgjdgejljkhnlaa.frameWraps
