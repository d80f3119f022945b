/-
  Layer 5 (value), 5.3, 5.5: of every text, just what is written so is read as a value. Tied to the tables of the library and its error of size; no other condition.
-/
import Derived.Test.YtpfcmlmljolplaaDoorValK
import Derived.Test.YtpfcmlmljolplaaDoorValQ
import Derived.Test.YtpfcmlmljolplaaDoorArg
import Derived.WalkKit
import Derived.ProofKit
import Derived.OpenShut
import Derived.ShutString
import Derived.ChangeOld
import Derived.Below
import Derived.Lib.SmallJoins
import Derived.Test.YtpfcmlmljolplaaDoorTie
import Derived.Test.YtpfcmlmljolplaaDoorCards
import Derived.LaidMore
import Derived.Stop.Joined
import Derived.SevenTiedAt
import Derived.Lib.LaidTab
import Derived.Stop.LaidErr
set_option linter.unusedVariables false
set_option linter.unusedSimpArgs false
namespace Go.Proofs.YtpfcmlmljolplaaDoor.valueParses
open Go.ChangeShapes Go.WideShapes Go.ChangeAt Go.RowKit Go.Joins
open Go.ChangeMaps (open_string shut_string)
attribute [local go_sem] GW.cell GW.frozen In.eq_true In.le_true In.ne In.ne' In.ne_add In.ne_add' In.lt_add Upto.le_true Upto.le_add Upto.lt_add
theorem star : "*" ++ "errors.errorString" = "*errors.errorString" := by decide
set_option maxHeartbeats 4000000 in
set_option maxRecDepth 100000 in
theorem walk (s : ByteArray) (w : World) (hs : s.size ≤ 140737488351232) (ht : Tab w) (hE : ErrR w) : Calls Tryd.prog 4 #[.string s] w fun e w' => e = .returned (.bool true) ∧ Ext w w' := by
  replace hE := hide hE
  have htb := hide ht
  clear ht
  by_cases hx : paE s.data.toList = 0
  · have hp := hide (fun w h => parse_c s hs w h)
    have hq := hide (fun w => refParse_c s hs w)
    have hlv := hide (fun w h => live_c w h)
    have hsh := hide (fun w h => vshow_c (paV s.data.toList).1 (paV s.data.toList).2.1 (paV s.data.toList).2.2 (paV_in _) w h)
    rw [show ((paV s.data.toList).1, (paV s.data.toList).2.1, (paV s.data.toList).2.2) = paV s.data.toList from rfl, (show_pa hx).1] at hsh
    have hss : (⟨s.data.toList.toArray⟩ : ByteArray) = s := by cases s; simp
    rw [hss] at hsh
    clear hss
    obtain ⟨⟨vk, vn, vs⟩, hpv⟩ : ∃ p, paV s.data.toList = p := ⟨_, rfl⟩
    rw [hpv, hx] at hp hq
    rw [hpv] at hsh
    have hns := neq_same vk vn vs
    clear hpv hs hx
    go_enter Tryd.func4, Tryd.ntmps4
    go_wp2_with (first | (go_at_call 6; (with_reducible refine seq_gw (hp.out _ hE.out) ?_); intro g1) | (go_at_call 10; (with_reducible refine seq_gw (hq.out _) ?_); intro g2; have hX2 := hide (((g1.grown.alloc (.cells #[.int .i64 vk, .int .i64 vn, .string vs] 24)).trans g2.grown).alloc (.cells #[.int .i64 vk, .int .i64 vn, .string vs] 24)); have m0 := (Ob.new g1.val 24 [.int .i64 vk, .int .i64 vn, .string vs]); have O2 := hide (m0.ext g2.grown)) | (go_at_call 9; (with_reducible refine seq_gw (hlv.out _ (errR_ext hE.out hX2.out)) ?_); intro g5) | (go_at_call 5; (with_reducible refine seq_gw' (hsh.out _ (htb.out.ext (hX2.out.trans g5.grown))) ?_); intro g6))
    go_returns
    exact ⟨by first | rfl | simp, hX2.out.trans g6.grown⟩

  · have hp := hide (fun w h => parse_c s hs w h)
    have hq := hide (fun w => refParse_c s hs w)
    have hlv := hide (fun w h => live_c w h)
    obtain ⟨⟨vk, vn, vs⟩, hpv⟩ : ∃ p, paV s.data.toList = p := ⟨_, rfl⟩
    rw [hpv] at hp hq
    obtain ⟨x, hxe⟩ : ∃ x, paE s.data.toList = x := ⟨_, rfl⟩
    rw [hxe] at hp hq hx
    have e0 : (x != 0) = true := by simp [hx]
    clear hxe
    replace hx := hide hx
    have hns := neq_same vk vn vs
    clear hpv hs
    go_enter Tryd.func4, Tryd.ntmps4
    go_wp2_with (first | (go_at_call 6; (with_reducible refine seq_gw (hp.out _ hE.out) ?_); intro g1) | (go_at_call 10; (with_reducible refine seq_gw (hq.out _) ?_); intro g2; have hX2 := hide (((g1.grown.alloc (.cells #[.int .i64 vk, .int .i64 vn, .string vs] 24)).trans g2.grown).alloc (.cells #[.int .i64 vk, .int .i64 vn, .string vs] 24)); have m0 := (Ob.new g1.val 24 [.int .i64 vk, .int .i64 vn, .string vs]); have O2 := hide (m0.ext g2.grown)) | (go_at_call 9; (with_reducible refine seq_gw (hlv.out _ (errR_ext hE.out hX2.out)) ?_); intro g5))
    go_returns
    exact ⟨by first | rfl | simp, hX2.out.trans g5.grown⟩


theorem own : ownKnob Tryd.prog.godebug = none := by kernel_rfl
theorem laidOut : laidOutB Tryd.prog = true := by kernel_rfl
/-- The variables that the row lists. -/
def laidL : List (String × DataW Unit) := [("math/bits.deBruijn32tab", Rows.laid_math_bits_deBruijn32tab), ("math/bits.deBruijn64tab", Rows.laid_math_bits_deBruijn64tab), ("internal/strconv.uint64pow10", Rows.laid_internal_strconv_uint64pow10), ("strconv.ErrRange", Rows.laid_strconv_ErrRange), ("strconv.ErrSyntax", Rows.laid_strconv_ErrSyntax)]
theorem door_met (os : Os) (args : Array Value) : laidMetH Tryd.prog laidL ((World.doorLaid Tryd.prog 62 os).forCall (fun _ _ => 0) ⟨#[], args, []⟩).memory :=
  laidMetH_of_parts3 (fuel := 8) (laidMet_of_run' 8 (by kernel_rfl) (by kernel_rfl)) (by kernel_rfl) (by kernel_rfl)
set_option maxRecDepth 100000 in
theorem lifted (os : Os) (started : os.Started) (H : Type) (enc : TypeId × Value → H) :
    ReturnsInHanded {} Tryd.checked os 4 .any (fun w args => (Rows.valueParsesSpec.pre enc Tryd.prog Tryd.f4 [] false w args ∧ laidMetH Tryd.prog laidL w) ∧ sizedMet enc Tryd.prog Tryd.f4 (OpenSpec.ofChange Rows.valueParsesSpec) false w args) (Rows.valueParsesSpec.post enc Tryd.prog Tryd.f4 false true false false) := by
  refine returnsInHanded_of_change_and (C := Tryd.checked) (X := fun w _ => laidMetH Tryd.prog laidL w) (fun _ _ _ hh h => h.of_heap hh) own started (by kernel_rfl) Tryd.func4
    (ChangeSpec.witness_shaped (enc := enc) (C := Tryd.checked) (os := os) (X := fun w _ => laidMetH Tryd.prog laidL w) false (World.doorLaid Tryd.prog 62 os) #[.string ByteArray.empty] 8 rfl (World.shaped_of_RefB (by kernel_rfl) (by kernel_rfl)) (by kernel_rfl) (by kernel_rfl) (by kernel_rfl) (door_met os _)) ?_
  intro W base args ds gs before hval0 hW _ hsz0 hL _
  have hsz : (DataW.weightsEach Tryd.prog (Tryd.f4.params.toList ++ Rows.valueParsesSpec.plain.varTypes Tryd.prog) (ds ++ gs)).all (· ≤ reachBytes) = true := hsz0
  clear hsz0
  have hval : ∀ (j : Nat) t v, Tryd.f4.params[j]? = some t → args[j]? = some v → Value.okWide Tryd.prog W .any base t v := hval0
  have hW' := hW
  obtain ⟨p, q, hA0, hV, rfl, hfz, hnd⟩ := hW
  have hA : DataW.TrodAll enc Tryd.prog W 0 (fun _ => true) true Tryd.f4.params.toList args.toList ds p := hA0
  rw [Tryd.params4] at hA hval hsz
  obtain ⟨v0, vs0, d0, ds0, p0, q0, hargs, rfl, rfl, h0, r0⟩ := trodAll_cons hA
  obtain ⟨rfl, rfl, rfl⟩ := trodAll_nil r0
  obtain rfl : args = #[v0] := by cases args; simp_all
  obtain ⟨rfl, rfl⟩ := trodVars_none hV
  have k0 := h0
  have lt0 : ∀ x ∈ p0, x.block < W.heap.size := by obtain ⟨m, hm⟩ := k0; exact DataW.trod_lt m _ _ _ hm
  obtain ⟨s, rfl, es, _, ws⟩ := open_string Tryd.underlying9 (hval 0 9 v0 rfl rfl) h0
  subst es
  have zs : s.size ≤ 140737488351232 := sized_text hsz (j := 0) (t := 9) rfl rfl
  clear hA0 hval0
  have hL' := hL
  rw [MakeChecks.laidMetH_plain _ _ _ (by kernel_rfl)] at hL'
  have ht : Tab W := Lib.tabIs_of_head (g := 3) (by kernel_rfl) (by kernel_rfl) Tryd.underlying84 Tryd.underlying61 (by kernel_rfl) (by kernel_rfl) (laidMet.tail (laidMet.tail hL'))
  have hER : ErrR W := by
    obtain ⟨a0, s0, hv0, _, _, _⟩ := laid_sentinel (g := 1) (nm := "*errors.errorString") (laidMet.tail (laidMet.tail (laidMet.tail hL'))) (by kernel_rfl) (by kernel_rfl) Tryd.underlying51 (fun u hu => typeName_ptr_named (nm := "errors.errorString") (by rw [star]; kernel_rfl) (by kernel_rfl) (by decide) u (by rw [star]; exact hu)) Tryd.underlying73 Tryd.underlying75 rfl rfl Tryd.underlying9 (by kernel_rfl) (by kernel_rfl)
    exact ⟨_, _, hv0⟩
  refine (walk s W zs ht hER).mono fun e W' ⟨he, bel⟩ => ?_
  subst he
  exact ⟨_, rfl, _, _, _, [], _, [], hW', trodAll_mk1 (shut_bool Tryd.underlying4 _), (trodAll_cons_mk (Below.trod laidOut (by kernel_rfl) (of_decide_eq_true (by kernel_rfl)) k0 bel lt0) trodAll_mk0), rfl, bel.frame _, fun h => by cases h⟩

theorem over : Rows.valueParsesRow.holds Tryd.pinned (OpenSpec.ofChange Rows.valueParsesSpec) :=
  OpenClaim.holds_of_wide 4 Tryd.f4 rfl rfl rfl rfl rfl rfl rfl ⟨rfl, rfl, rfl, rfl, rfl⟩ rfl rfl rfl rfl rfl (by kernel_rfl) Tryd.func4 (by kernel_rfl)
    (of_decide_eq_true (by kernel_rfl)) (by unfold Func.isWrapper; first | (rw [if_pos (by decide +kernel)]; kernel_rfl) | (rw [if_neg (by decide +kernel)]; exact ⟨rfl, rfl⟩))
    (fun os started H enc _ => lifted os started H enc)

theorem valueParses_holds : Rows.ValueParsesSaid := over
theorem valueParses_card : Rows.ValueParsesCardSaid :=
  Claim7.holds_tied_plain_at .later [] [.data, .data, .data, .sentinel, .sentinel] true (true, "8c9b54528d5567a62aa0872a4e5081365d08941da56a76e93bef24d1498cf010") true
    over (fun _ h => by cases h) (by kernel_rfl) (fun _ h => by cases h) valueParses_row_tie rfl ⟨rfl, rfl⟩ (by kernel_rfl) rfl
    (fun f fn hf hfn => by
      obtain rfl : f = 4 := Option.some.inj ((show Tryd.prog.funcNamed "rescind/rescindlaw05.ValueParses" = some 4 by kernel_rfl).symm.trans hf) |>.symm
      obtain rfl : fn = Tryd.f4 := (Option.some.inj (Tryd.func4.symm.trans hfn)).symm
      exact ⟨by kernel_rfl, fun j t ht => by
        rw [Tryd.params4] at ht
        have hm : t ∈ [9] := by simpa using Array.mem_of_getElem? ht
        have hall : ([9].all fun u => !Tryd.prog.wantsStandIn u) = true := by kernel_rfl
        exact (show Tryd.prog.wantsStandIn t = false by simpa using List.all_eq_true.1 hall t hm)⟩)
    (by kernel_rfl)
end Go.Proofs.YtpfcmlmljolplaaDoor.valueParses
