/-
  Layer 5 (value), 5.1: for every value, number and text, which values are ones, and what is made of a number and a text, is what the document says. Tied to the tables of the library and its error of size; no other condition.
-/
import Derived.Test.YtgjdgejljkhnlaaDoorValE
import Derived.Test.YtgjdgejljkhnlaaDoorValQ
import Derived.WalkKit
import Derived.ProofKit
import Derived.OpenShut
import Derived.ShutString
import Derived.ChangeOld
import Derived.Below
import Derived.Lib.SmallJoins
import Derived.Test.YtgjdgejljkhnlaaDoorTie
import Derived.Test.YtgjdgejljkhnlaaDoorCards
import Derived.LaidMore
import Derived.Stop.Joined
import Derived.SevenTiedAt
import Derived.Lib.LaidTab
import Derived.Stop.LaidErr
set_option linter.unusedVariables false
set_option linter.unusedSimpArgs false
namespace Go.Proofs.YtgjdgejljkhnlaaDoor.valueMay
open Go.ChangeShapes Go.WideShapes Go.ChangeAt Go.RowKit Go.Joins
open Go.ChangeMaps (open_string shut_string)
attribute [local go_sem] GW.cell GW.frozen In.eq_true In.le_true In.ne In.ne' In.ne_add In.ne_add' In.lt_add Upto.le_true Upto.le_add Upto.lt_add
theorem star : "*" ++ "errors.errorString" = "*errors.errorString" := by decide
set_option maxHeartbeats 4000000 in
set_option maxRecDepth 100000 in
theorem walk (k n : Int) (s0 : ByteArray) (m : Int) (s : ByteArray) (w : World)  (hE : ErrR w) : Calls Tryd.prog 3 #[val k n s0, .int .i64 m, .string s] w fun e w' => e = .returned (.bool true) ∧ Ext w w' := by
  have h1 := hide (fun w => may_c k n s0 w)
  have r1 := hide (fun w => refMay_c k n s0 w)
  have n1 := hide (fun w => num_c m w)
  have n2 := hide (fun w => refNum_c m w)
  have t2 := hide (fun w => refText_c s w)
  have h2 := hide (fun w => may_c 1 m ⟨#[]⟩ w)
  rw [may_num (by rfl)] at h2
  have hlv := hide (fun w h => live_c w h)
  have q1 := eq_same
  have q2 := neq_same
  generalize mayB k n s0 = bm at h1 r1
  replace hE := hide hE
  by_cases hl : 64 < s.size
  · have tx := hide (fun w => text_long s hl w)
    have h3 := hide (fun w => may_c 2 0 s w)
    have hlI : (64 : Int) < (s.size : Int) := by omega
    go_enter Tryd.func3, Tryd.ntmps3
    go_wp2_with (go_at_call 5; with_reducible refine seq_gw (tx.out _) ?_; intro g)
    refine wp_region_gw (by kernel_rfl) (by kernel_rfl) ?_
    repeat (go_big_quiet_step (first | (go_at_call 6; first | (with_reducible exact quiet_gw (h1.out _)) | (with_reducible exact quiet_gw (h2.out _)) | (with_reducible exact quiet_gw (h3.out _))) | (go_at_call 7; with_reducible exact quiet_gw (r1.out _)) | (go_at_call 8; with_reducible exact quiet_gw (n1.out _)) | (go_at_call 9; with_reducible exact quiet_gw (n2.out _)) | (go_at_call 11; with_reducible exact quiet_gw (t2.out _)) | (go_at_call 10; with_reducible exact quiet_gw (hlv.out _ hE.out))))
    refine wpQuiet_nil ?_
    intro g2
    have hX2 : Ext w g2.val := (((((Ext.refl w).alloc _).trans g.grown).alloc _).trans g2.grown)
    have hE2 := hide (errR_ext hE.out hX2)
    go_wp2_with (go_at_call 10; with_reducible refine seq_gw' (hlv.out _ hE2.out) ?_; intro g3)
    go_returns
    exact ⟨rfl, ((((Ext.refl w).alloc _).trans g.grown).alloc _).trans g3.grown⟩

  · replace hl : s.size ≤ 64 := by omega
    have tx := hide (fun w => text_ok s hl w)
    have h3 := hide (fun w => may_c 2 0 s w)
    rw [may_text hl] at h3
    have hlI : (s.size : Int) ≤ 64 := by omega
    go_enter Tryd.func3, Tryd.ntmps3
    go_wp2_with (go_at_call 5; with_reducible refine seq_gw (tx.out _) ?_; intro g)
    refine wp_region_gw (by kernel_rfl) (by kernel_rfl) ?_
    repeat (go_big_quiet_step (first | (go_at_call 6; first | (with_reducible exact quiet_gw (h1.out _)) | (with_reducible exact quiet_gw (h2.out _)) | (with_reducible exact quiet_gw (h3.out _))) | (go_at_call 7; with_reducible exact quiet_gw (r1.out _)) | (go_at_call 8; with_reducible exact quiet_gw (n1.out _)) | (go_at_call 9; with_reducible exact quiet_gw (n2.out _)) | (go_at_call 11; with_reducible exact quiet_gw (t2.out _)) | (go_at_call 10; with_reducible exact quiet_gw (hlv.out _ hE.out))))
    refine wpQuiet_nil ?_
    intro g2
    have hX2 : Ext w g2.val := (((((Ext.refl w).alloc _).trans g.grown).alloc _).trans g2.grown)
    have hE2 := hide (errR_ext hE.out hX2)
    go_wp2_with fail
    refine wp_region_gw (by kernel_rfl) (by kernel_rfl) ?_
    repeat (go_big_quiet_step (first | (go_at_call 6; first | (with_reducible exact quiet_gw (h1.out _)) | (with_reducible exact quiet_gw (h2.out _)) | (with_reducible exact quiet_gw (h3.out _))) | (go_at_call 7; with_reducible exact quiet_gw (r1.out _)) | (go_at_call 8; with_reducible exact quiet_gw (n1.out _)) | (go_at_call 9; with_reducible exact quiet_gw (n2.out _)) | (go_at_call 11; with_reducible exact quiet_gw (t2.out _)) | (go_at_call 10; with_reducible exact quiet_gw (hlv.out _ (errR_ext hE2.out (GW.grown _))))))
    refine wpQuiet_nil ?_
    intro g3
    go_wp2_with fail
    go_returns
    exact ⟨rfl, hX2.trans g3.grown⟩


theorem own : ownKnob Tryd.prog.godebug = none := by kernel_rfl
theorem laidOut : laidOutB Tryd.prog = true := by kernel_rfl
/-- The variables that the row lists. -/
def laidL : List (String × DataW Unit) := [("math/bits.deBruijn32tab", Rows.laid_math_bits_deBruijn32tab), ("math/bits.deBruijn64tab", Rows.laid_math_bits_deBruijn64tab), ("internal/strconv.uint64pow10", Rows.laid_internal_strconv_uint64pow10), ("strconv.ErrRange", Rows.laid_strconv_ErrRange), ("strconv.ErrSyntax", Rows.laid_strconv_ErrSyntax)]
theorem door_met (os : Os) (args : Array Value) : laidMetH Tryd.prog laidL ((World.doorLaid Tryd.prog 62 os).forCall (fun _ _ => 0) ⟨#[], args, []⟩).memory :=
  laidMetH_of_parts3 (fuel := 8) (laidMet_of_run' 8 (by kernel_rfl) (by kernel_rfl)) (by kernel_rfl) (by kernel_rfl)
set_option maxRecDepth 100000 in
theorem lifted (os : Os) (started : os.Started) (H : Type) (enc : TypeId × Value → H) :
    ReturnsInHanded {} Tryd.checked os 3 .any (fun w args => (Rows.valueMaySpec.pre enc Tryd.prog Tryd.f3 [] false w args ∧ laidMetH Tryd.prog laidL w) ∧ sizedMet enc Tryd.prog Tryd.f3 (OpenSpec.ofChange Rows.valueMaySpec) false w args) (Rows.valueMaySpec.post enc Tryd.prog Tryd.f3 false true false false) := by
  refine returnsInHanded_of_change_and (C := Tryd.checked) (X := fun w _ => laidMetH Tryd.prog laidL w) (fun _ _ _ hh h => h.of_heap hh) own started (by kernel_rfl) Tryd.func3
    (ChangeSpec.witness_shaped (enc := enc) (C := Tryd.checked) (os := os) (X := fun w _ => laidMetH Tryd.prog laidL w) false (World.doorLaid Tryd.prog 62 os) #[.agg #[.int .i64 0, .int .i64 0, .string ByteArray.empty], .int .i64 0, .string ByteArray.empty] 8 rfl (World.shaped_of_RefB (by kernel_rfl) (by kernel_rfl)) (by kernel_rfl) (by kernel_rfl) (by kernel_rfl) (door_met os _)) ?_
  intro W base args ds gs before hval0 hW _ _ hL _
  have hval : ∀ (j : Nat) t v, Tryd.f3.params[j]? = some t → args[j]? = some v → Value.okWide Tryd.prog W .any base t v := hval0
  have hW' := hW
  obtain ⟨p, q, hA0, hV, rfl, hfz, hnd⟩ := hW
  have hA : DataW.TrodAll enc Tryd.prog W 0 (fun _ => true) true Tryd.f3.params.toList args.toList ds p := hA0
  rw [Tryd.params3] at hA hval
  obtain ⟨v0, vs0, d0, ds0, p0, q0, hargs, rfl, rfl, h0, r0⟩ := trodAll_cons hA
  obtain ⟨v1, vs1, d1, ds1, p1, q1, rfl, rfl, rfl, h1, r1⟩ := trodAll_cons r0
  obtain ⟨v2, vs2, d2, ds2, p2, q2, rfl, rfl, rfl, h2, r2⟩ := trodAll_cons r1
  obtain ⟨rfl, rfl, rfl⟩ := trodAll_nil r2
  obtain rfl : args = #[v0, v1, v2] := by cases args; simp_all
  obtain ⟨rfl, rfl⟩ := trodVars_none hV
  have k0 := h0
  have lt0 : ∀ x ∈ p0, x.block < W.heap.size := by obtain ⟨m, hm⟩ := k0; exact DataW.trod_lt m _ _ _ hm
  obtain ⟨c0a, c0b, c0c, y0a, y0b, y0c, m0, rfl, _, _, hy0a, hy0b, hy0c⟩ := open_agg3 Tryd.underlying24 (by kernel_rfl) (by kernel_rfl) (hval 0 24 v0 rfl rfl) h0
  obtain ⟨vk, e0a, _, wvk⟩ := DataW.trod_int Tryd.underlying22 hy0a
  simp at e0a; subst e0a
  obtain ⟨vn, e0b, _, wvn⟩ := DataW.trod_int Tryd.underlying3 hy0b
  simp at e0b; subst e0b
  obtain ⟨vs, e0c, _, wvs⟩ := DataW.trod_string Tryd.underlying9 hy0c
  simp at e0c; subst e0c
  have k1 := h1
  have lt1 : ∀ x ∈ p1, x.block < W.heap.size := by obtain ⟨m, hm⟩ := k1; exact DataW.trod_lt m _ _ _ hm
  obtain ⟨n, rfl, _, _, wn⟩ := open_int Tryd.underlying3 (hval 1 3 v1 rfl rfl) h1
  have k2 := h2
  have lt2 : ∀ x ∈ p2, x.block < W.heap.size := by obtain ⟨m, hm⟩ := k2; exact DataW.trod_lt m _ _ _ hm
  obtain ⟨s, rfl, _, _, ws⟩ := open_string Tryd.underlying9 (hval 2 9 v2 rfl rfl) h2
  clear hA0 hval0
  have hL' := hL
  rw [MakeChecks.laidMetH_plain _ _ _ (by kernel_rfl)] at hL'
  have ht : Tab W := Lib.tabIs_of_head (g := 3) (by kernel_rfl) (by kernel_rfl) Tryd.underlying85 Tryd.underlying61 (by kernel_rfl) (by kernel_rfl) (laidMet.tail (laidMet.tail hL'))
  have hER : ErrR W := by
    obtain ⟨a0, s0, hv0, _, _, _⟩ := laid_sentinel (g := 1) (nm := "*errors.errorString") (laidMet.tail (laidMet.tail (laidMet.tail hL'))) (by kernel_rfl) (by kernel_rfl) Tryd.underlying50 (fun u hu => typeName_ptr_named (nm := "errors.errorString") (by rw [star]; kernel_rfl) (by kernel_rfl) (by decide) u (by rw [star]; exact hu)) Tryd.underlying74 Tryd.underlying76 rfl rfl Tryd.underlying9 (by kernel_rfl) (by kernel_rfl)
    exact ⟨_, _, hv0⟩
  refine (walk vk vn vs n s W hER).mono fun e W' ⟨he, bel⟩ => ?_
  subst he
  exact ⟨_, rfl, _, _, _, [], _, [], hW', trodAll_mk1 (shut_bool Tryd.underlying4 _), (trodAll_cons_mk (Below.trod laidOut (by kernel_rfl) (of_decide_eq_true (by kernel_rfl)) k0 bel lt0) (trodAll_cons_mk (Below.trod laidOut (by kernel_rfl) (of_decide_eq_true (by kernel_rfl)) k1 bel lt1) (trodAll_cons_mk (Below.trod laidOut (by kernel_rfl) (of_decide_eq_true (by kernel_rfl)) k2 bel lt2) trodAll_mk0))), rfl, bel.frame _, fun h => by cases h⟩

theorem over : Rows.valueMayRow.holds Tryd.pinned (OpenSpec.ofChange Rows.valueMaySpec) :=
  OpenClaim.holds_of_wide 3 Tryd.f3 rfl rfl rfl rfl rfl rfl rfl ⟨rfl, rfl, rfl, rfl, rfl⟩ rfl rfl rfl rfl rfl (by kernel_rfl) Tryd.func3 (by kernel_rfl)
    (of_decide_eq_true (by kernel_rfl)) (by unfold Func.isWrapper; first | (rw [if_pos (by decide +kernel)]; kernel_rfl) | (rw [if_neg (by decide +kernel)]; exact ⟨rfl, rfl⟩))
    (fun os started H enc _ => lifted os started H enc)

theorem valueMay_holds : Rows.ValueMaySaid := over
theorem valueMay_card : Rows.ValueMayCardSaid :=
  Claim7.holds_tied_plain_at .later [] [.data, .data, .data, .sentinel, .sentinel] true (true, "be64c3f79c5cdbc042a8efc51a7336da4b4efa15cbca253a2ef51db7f8a83f9c") true
    over (fun _ h => by cases h) (by kernel_rfl) (fun _ h => by cases h) valueMay_row_tie rfl ⟨rfl, rfl⟩ (by kernel_rfl) rfl
    (fun f fn hf hfn => by
      obtain rfl : f = 3 := Option.some.inj ((show Tryd.prog.funcNamed "rescind/rescindlaw05.ValueMay" = some 3 by kernel_rfl).symm.trans hf) |>.symm
      obtain rfl : fn = Tryd.f3 := (Option.some.inj (Tryd.func3.symm.trans hfn)).symm
      exact ⟨by kernel_rfl, fun j t ht => by
        rw [Tryd.params3] at ht
        have hm : t ∈ [24, 3, 9] := by simpa using Array.mem_of_getElem? ht
        have hall : ([24, 3, 9].all fun u => !Tryd.prog.wantsStandIn u) = true := by kernel_rfl
        exact (show Tryd.prog.wantsStandIn t = false by simpa using List.all_eq_true.1 hall t hm)⟩)
    (by kernel_rfl)
end Go.Proofs.YtgjdgejljkhnlaaDoor.valueMay
