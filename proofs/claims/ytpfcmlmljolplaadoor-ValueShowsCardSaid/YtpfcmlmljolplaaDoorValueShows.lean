/-
  Layer 5 (value), 5.3, 5.5: every value is written as the document says, and what is read of it is the value. Tied to the tables of the library and its error of size; no other condition.
-/
import Derived.Test.YtpfcmlmljolplaaDoorValK
import Derived.Test.YtpfcmlmljolplaaDoorValQ
import Derived.Test.YtpfcmlmljolplaaDoorArg
import Derived.WalkKit
import Derived.ProofKit
import Derived.OpenShut
import Derived.ShutString
import Derived.ChangeOld
import Derived.Below
import Derived.Lib.SmallJoins
import Derived.Test.YtpfcmlmljolplaaDoorTie
import Derived.Test.YtpfcmlmljolplaaDoorCards
import Derived.LaidMore
import Derived.Stop.Joined
import Derived.SevenTiedAt
import Derived.Lib.LaidTab
import Derived.Stop.LaidErr
set_option linter.unusedVariables false
set_option linter.unusedSimpArgs false
namespace Go.Proofs.YtpfcmlmljolplaaDoor.valueShows
open Go.ChangeShapes Go.WideShapes Go.ChangeAt Go.RowKit Go.Joins
open Go.ChangeMaps (open_string shut_string)
attribute [local go_sem] GW.cell GW.frozen In.eq_true In.le_true In.ne In.ne' In.ne_add In.ne_add' In.lt_add Upto.le_true Upto.le_add Upto.lt_add
theorem star : "*" ++ "errors.errorString" = "*errors.errorString" := by decide
set_option maxHeartbeats 4000000 in
set_option maxRecDepth 100000 in
theorem walk (k n : Int) (s : ByteArray) (w : World) (hn : -9223372036854775808 ≤ n ∧ n ≤ 9223372036854775807) (ht : Tab w) (hE : ErrR w) : Calls Tryd.prog 3 #[val k n s] w fun e w' => e = .returned (.bool true) ∧ Ext w w' := by
  replace hE := hide hE
  have htb := hide ht
  clear ht
  cases hm : mayB k n s
  · have hmy := hide (fun w => may_c k n s w)
    rw [hm] at hmy
    have hs := hide (fun w h => vshow_c k n s hn w h)
    have hq := hide (fun w => vrefShow_c k n s hn w)
    have hl2 := showV_len (k := k) (s := s) hn
    rw [showV_no hm] at hs hq
    obtain ⟨t, ht0⟩ : ∃ t : ByteArray, t = ⟨(([] : List UInt8)).toArray⟩ := ⟨_, rfl⟩
    have htd : t.data.toList = ([] : List UInt8) := by rw [ht0]
    have hz : t.size ≤ 140737488351232 := by rw [← size_lst, htd]; simp
    have hr := hide (fun w h => parse_c t hz w h)
    rw [htd, pa_nil] at hr
    have nT : t.toList = [] := by rw [Lib.toList_data, htd]
    obtain ⟨⟨pk, pn, ps'⟩, hpv⟩ : ∃ p, paV [] = p := ⟨_, rfl⟩
    rw [hpv] at hr
    clear hpv
    have hs' := hide (show ∀ w', Tab w' → Calls Tryd.prog 5 #[val k n s] w' fun e w'' => e = .returned (.string t) ∧ Ext w' w'' from fun w' h => by rw [ht0]; exact hs.out w' h)
    have hq' := hide (show ∀ w', Calls Tryd.prog 7 #[val k n s] w' fun e w'' => e = .returned (.string t) ∧ Ext w' w'' from fun w' => by rw [ht0]; exact hq.out w')
    have hlv := hide (fun w h => live_c w h)
    have hqs := eq_same k n s
    clear hs hq hl2 htd ht0 hz hm hn
    go_enter Tryd.func3, Tryd.ntmps3
    go_wp2_with (first | (go_at_call 5; (with_reducible refine seq_gw (hs'.out _ (htb.out.ext ((Ext.refl w).alloc _))) ?_); intro g1) | (go_at_call 6; (with_reducible refine seq_gw' (hr.out _ (errR_ext hE.out (((Ext.refl w).alloc _).trans g1.grown))) ?_); intro g2; have hX2 := hide (((Ext.refl w).alloc (.cells #[.int .i64 k, .int .i64 n, .string s] 24)).trans g2.grown)) | (go_at_call 7; (with_reducible refine seq_gw (hq'.out _) ?_); intro g3) | (go_at_call 8; (with_reducible refine seq_gw' (hmy.out _) ?_); intro g4) | (go_at_call 9; (with_reducible refine seq_gw' (hlv.out _ (errR_ext hE.out ((hX2.out.alloc _).trans g4.grown))) ?_); intro g5))
    go_returns
    exact ⟨by first | rfl | simp, (hX2.out.alloc _).trans g5.grown⟩

  · have hmy := hide (fun w => may_c k n s w)
    rw [hm] at hmy
    have hs := hide (fun w h => vshow_c k n s hn w h)
    have hq := hide (fun w => vrefShow_c k n s hn w)
    have hl2 := showV_len (k := k) (s := s) hn
    obtain ⟨t, ht0⟩ : ∃ t : ByteArray, t = ⟨(showV (k, n, s)).toArray⟩ := ⟨_, rfl⟩
    have htd : t.data.toList = showV (k, n, s) := by rw [ht0]
    have hz : t.size ≤ 140737488351232 := by rw [← size_lst, htd]; omega
    have hr := hide (fun w h => parse_c t hz w h)
    rw [htd, (pa_show hn hm).1, (pa_show hn hm).2] at hr
    have hs' := hide (show ∀ w', Tab w' → Calls Tryd.prog 5 #[val k n s] w' fun e w'' => e = .returned (.string t) ∧ Ext w' w'' from fun w' h => by rw [ht0]; exact hs.out w' h)
    have hq' := hide (show ∀ w', Calls Tryd.prog 7 #[val k n s] w' fun e w'' => e = .returned (.string t) ∧ Ext w' w'' from fun w' => by rw [ht0]; exact hq.out w')
    have hlv := hide (fun w h => live_c w h)
    have hqs := eq_same k n s
    clear hs hq hl2 htd ht0 hz hm hn
    go_enter Tryd.func3, Tryd.ntmps3
    go_wp2_with (first | (go_at_call 5; (with_reducible refine seq_gw (hs'.out _ (htb.out.ext ((Ext.refl w).alloc _))) ?_); intro g1) | (go_at_call 6; (with_reducible refine seq_gw' (hr.out _ (errR_ext hE.out (((Ext.refl w).alloc _).trans g1.grown))) ?_); intro g2; have hX2 := hide (((Ext.refl w).alloc (.cells #[.int .i64 k, .int .i64 n, .string s] 24)).trans g2.grown)) | (go_at_call 7; (with_reducible refine seq_gw (hq'.out _) ?_); intro g3) | (go_at_call 8; (with_reducible refine seq_gw' (hmy.out _) ?_); intro g4) | (go_at_call 9; (with_reducible refine seq_gw' (hlv.out _ (errR_ext hE.out ((hX2.out.alloc _).trans g4.grown))) ?_); intro g5))
    go_returns
    exact ⟨by first | rfl | simp, (hX2.out.alloc _).trans g5.grown⟩


theorem own : ownKnob Tryd.prog.godebug = none := by kernel_rfl
theorem laidOut : laidOutB Tryd.prog = true := by kernel_rfl
/-- The variables that the row lists. -/
def laidL : List (String × DataW Unit) := [("math/bits.deBruijn32tab", Rows.laid_math_bits_deBruijn32tab), ("math/bits.deBruijn64tab", Rows.laid_math_bits_deBruijn64tab), ("internal/strconv.uint64pow10", Rows.laid_internal_strconv_uint64pow10), ("strconv.ErrRange", Rows.laid_strconv_ErrRange), ("strconv.ErrSyntax", Rows.laid_strconv_ErrSyntax)]
theorem door_met (os : Os) (args : Array Value) : laidMetH Tryd.prog laidL ((World.doorLaid Tryd.prog 62 os).forCall (fun _ _ => 0) ⟨#[], args, []⟩).memory :=
  laidMetH_of_parts3 (fuel := 8) (laidMet_of_run' 8 (by kernel_rfl) (by kernel_rfl)) (by kernel_rfl) (by kernel_rfl)
set_option maxRecDepth 100000 in
theorem lifted (os : Os) (started : os.Started) (H : Type) (enc : TypeId × Value → H) :
    ReturnsInHanded {} Tryd.checked os 3 .any (fun w args => (Rows.valueShowsSpec.pre enc Tryd.prog Tryd.f3 [] false w args ∧ laidMetH Tryd.prog laidL w) ∧ sizedMet enc Tryd.prog Tryd.f3 (OpenSpec.ofChange Rows.valueShowsSpec) false w args) (Rows.valueShowsSpec.post enc Tryd.prog Tryd.f3 false true false false) := by
  refine returnsInHanded_of_change_and (C := Tryd.checked) (X := fun w _ => laidMetH Tryd.prog laidL w) (fun _ _ _ hh h => h.of_heap hh) own started (by kernel_rfl) Tryd.func3
    (ChangeSpec.witness_shaped (enc := enc) (C := Tryd.checked) (os := os) (X := fun w _ => laidMetH Tryd.prog laidL w) false (World.doorLaid Tryd.prog 62 os) #[.agg #[.int .i64 0, .int .i64 0, .string ByteArray.empty]] 8 rfl (World.shaped_of_RefB (by kernel_rfl) (by kernel_rfl)) (by kernel_rfl) (by kernel_rfl) (by kernel_rfl) (door_met os _)) ?_
  intro W base args ds gs before hval0 hW _ _ hL _
  have hval : ∀ (j : Nat) t v, Tryd.f3.params[j]? = some t → args[j]? = some v → Value.okWide Tryd.prog W .any base t v := hval0
  have hW' := hW
  obtain ⟨p, q, hA0, hV, rfl, hfz, hnd⟩ := hW
  have hA : DataW.TrodAll enc Tryd.prog W 0 (fun _ => true) true Tryd.f3.params.toList args.toList ds p := hA0
  rw [Tryd.params3] at hA hval
  obtain ⟨v0, vs0, d0, ds0, p0, q0, hargs, rfl, rfl, h0, r0⟩ := trodAll_cons hA
  obtain ⟨rfl, rfl, rfl⟩ := trodAll_nil r0
  obtain rfl : args = #[v0] := by cases args; simp_all
  obtain ⟨rfl, rfl⟩ := trodVars_none hV
  have k0 := h0
  have lt0 : ∀ x ∈ p0, x.block < W.heap.size := by obtain ⟨m, hm⟩ := k0; exact DataW.trod_lt m _ _ _ hm
  obtain ⟨c0a, c0b, c0c, y0a, y0b, y0c, m0, rfl, _, _, hy0a, hy0b, hy0c⟩ := open_agg3 Tryd.underlying24 (by kernel_rfl) (by kernel_rfl) (hval 0 24 v0 rfl rfl) h0
  obtain ⟨vk, e0a, _, wvk⟩ := DataW.trod_int Tryd.underlying22 hy0a
  simp at e0a; subst e0a
  obtain ⟨vn, e0b, _, wvn⟩ := DataW.trod_int Tryd.underlying3 hy0b
  simp at e0b; subst e0b
  obtain ⟨vs, e0c, _, wvs⟩ := DataW.trod_string Tryd.underlying9 hy0c
  simp at e0c; subst e0c
  clear hA0 hval0
  have hL' := hL
  rw [MakeChecks.laidMetH_plain _ _ _ (by kernel_rfl)] at hL'
  have ht : Tab W := Lib.tabIs_of_head (g := 3) (by kernel_rfl) (by kernel_rfl) Tryd.underlying84 Tryd.underlying61 (by kernel_rfl) (by kernel_rfl) (laidMet.tail (laidMet.tail hL'))
  have hER : ErrR W := by
    obtain ⟨a0, s0, hv0, _, _, _⟩ := laid_sentinel (g := 1) (nm := "*errors.errorString") (laidMet.tail (laidMet.tail (laidMet.tail hL'))) (by kernel_rfl) (by kernel_rfl) Tryd.underlying51 (fun u hu => typeName_ptr_named (nm := "errors.errorString") (by rw [star]; kernel_rfl) (by kernel_rfl) (by decide) u (by rw [star]; exact hu)) Tryd.underlying73 Tryd.underlying75 rfl rfl Tryd.underlying9 (by kernel_rfl) (by kernel_rfl)
    exact ⟨_, _, hv0⟩
  refine (walk vk vn vs W (wf_i64 wvn) ht hER).mono fun e W' ⟨he, bel⟩ => ?_
  subst he
  exact ⟨_, rfl, _, _, _, [], _, [], hW', trodAll_mk1 (shut_bool Tryd.underlying4 _), (trodAll_cons_mk (Below.trod laidOut (by kernel_rfl) (of_decide_eq_true (by kernel_rfl)) k0 bel lt0) trodAll_mk0), rfl, bel.frame _, fun h => by cases h⟩

theorem over : Rows.valueShowsRow.holds Tryd.pinned (OpenSpec.ofChange Rows.valueShowsSpec) :=
  OpenClaim.holds_of_wide 3 Tryd.f3 rfl rfl rfl rfl rfl rfl rfl ⟨rfl, rfl, rfl, rfl, rfl⟩ rfl rfl rfl rfl rfl (by kernel_rfl) Tryd.func3 (by kernel_rfl)
    (of_decide_eq_true (by kernel_rfl)) (by unfold Func.isWrapper; first | (rw [if_pos (by decide +kernel)]; kernel_rfl) | (rw [if_neg (by decide +kernel)]; exact ⟨rfl, rfl⟩))
    (fun os started H enc _ => lifted os started H enc)

theorem valueShows_holds : Rows.ValueShowsSaid := over
theorem valueShows_card : Rows.ValueShowsCardSaid :=
  Claim7.holds_tied_plain_at .later [] [.data, .data, .data, .sentinel, .sentinel] true (true, "8c9b54528d5567a62aa0872a4e5081365d08941da56a76e93bef24d1498cf010") true
    over (fun _ h => by cases h) (by kernel_rfl) (fun _ h => by cases h) valueShows_row_tie rfl ⟨rfl, rfl⟩ (by kernel_rfl) rfl
    (fun f fn hf hfn => by
      obtain rfl : f = 3 := Option.some.inj ((show Tryd.prog.funcNamed "rescind/rescindlaw05.ValueShows" = some 3 by kernel_rfl).symm.trans hf) |>.symm
      obtain rfl : fn = Tryd.f3 := (Option.some.inj (Tryd.func3.symm.trans hfn)).symm
      exact ⟨by kernel_rfl, fun j t ht => by
        rw [Tryd.params3] at ht
        have hm : t ∈ [24] := by simpa using Array.mem_of_getElem? ht
        have hall : ([24].all fun u => !Tryd.prog.wantsStandIn u) = true := by kernel_rfl
        exact (show Tryd.prog.wantsStandIn t = false by simpa using List.all_eq_true.1 hall t hm)⟩)
    (by kernel_rfl)
end Go.Proofs.YtpfcmlmljolplaaDoor.valueShows
