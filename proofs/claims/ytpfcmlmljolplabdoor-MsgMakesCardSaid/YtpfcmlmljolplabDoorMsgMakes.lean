/-
  Layer 8 (msg), 8.1: for every numbers, and row, what is made as an insert, a retract and a promise has just these fields. Tied to the tables of the library; no other condition.
-/
import Derived.Test.YtpfcmlmljolplabDoorMsgL
import Derived.Test.YtpfcmlmljolplabDoorMsgB
import Derived.Test.YtpfcmlmljolplabDoorArgM
import Derived.Test.YtpfcmlmljolplabDoorReg
import Derived.Test.YtpfcmlmljolplabDoorReg2
import Derived.Test.YtpfcmlmljolplabDoorReg3
import Derived.Test.YtpfcmlmljolplabDoorArg
import Derived.WalkKit
import Derived.ProofKit
import Derived.OpenShut
import Derived.ShutString
import Derived.ChangeOld
import Derived.Below
import Derived.Lib.SmallJoins
import Derived.Test.YtpfcmlmljolplabDoorTie
import Derived.Test.YtpfcmlmljolplabDoorCards
import Derived.LaidMore
import Derived.Stop.Joined
import Derived.SevenTiedAt
import Derived.Lib.LaidTab
import Derived.Stop.LaidErr
set_option linter.unusedVariables false
set_option linter.unusedSimpArgs false
namespace Go.Proofs.YtpfcmlmljolplabDoor.msgMakes
open Go.ChangeShapes Go.WideShapes Go.ChangeAt Go.RowKit Go.Joins
open Go.ChangeMaps (open_string shut_string)
attribute [local go_sem] GW.cell GW.frozen In.eq_true In.le_true In.ne In.ne' In.ne_add In.ne_add' In.lt_add Upto.le_true Upto.le_add Upto.lt_add
theorem same_self (k i f t : Int) (l : List Vl) : msame k i f t l k i f t l = true := by simp [msame]
set_option maxHeartbeats 8000000 in
set_option maxRecDepth 100000 in
theorem walk (i f t : Int) (l : List Vl) (v : Value) (w : World) (hz : l.length * 32 ≤ 140737488351232) (hl : Rw w [] v l) (ht : Tab w) : Calls Tryd.prog 4 #[.int .i64 i, .int .i64 f, .int .i64 t, v] w fun e w' => e = .returned (.bool true) ∧ Ext w w' := by
  have hb := hide (begin_c i f t l v w hl hz)
  have he := hide (fun w => end_c i t w)
  have hmk := hide (fun w => mark_c f w)
  have hlv := hide (fun w h => msgLive_c w h)
  have hl' := hide hl
  have htb := hide ht
  have h2 := hide (fun w => refMsgSame_c 2 i 0 t [] (.slice none 0 0) 2 i 0 t [] (.slice none 0 0) w (Sl.nil _ _ _) (Sl.nil _ _ _))
  have h3 := hide (fun w => refMsgSame_c 3 0 f 0 [] (.slice none 0 0) 3 0 f 0 [] (.slice none 0 0) w (Sl.nil _ _ _) (Sl.nil _ _ _))
  rw [same_self] at h2 h3
  obtain ⟨A, cap, rfl, -, -, -⟩ := rw_form hl
  clear hl ht hz
  go_enter Tryd.func4, Tryd.ntmps4
  go_wp2_with (first
    | (go_at_call 14; refine hb.out.mono ?_; rintro ee w1 ⟨v1, rfl, ho1, hx1⟩; obtain ⟨A1, c1, rfl, -, -, -⟩ := rw_form ho1; obtain ⟨g1, rfl⟩ : ∃ g1 : GW w, w1 = g1.val := ⟨⟨_, hx1⟩, rfl⟩; have h1 := hide (fun w' (h : Ext g1.val w') => refMsgSame_c 1 i f t l _ 1 i f t l _ w' (Sl.ext ho1 h) (Sl.ext hl'.out (g1.grown.trans h))); rw [same_self] at h1; clear ho1)
    | (go_at_call 15; first | ((with_reducible refine seq_gw' (he.out _) ?_); intro g2) | ((with_reducible refine seq_gw (he.out _) ?_); intro g2))
    | (go_at_call 16; first | ((with_reducible refine seq_gw' (hmk.out _) ?_); intro g3) | ((with_reducible refine seq_gw (hmk.out _) ?_); intro g3))
    | (go_at_call 7; first | ((with_reducible refine seq_gw' (hlv.out _ (htb.out.ext (by repeat (first | exact Ext.refl _ | with_reducible assumption | refine Ext.alloc ?_ _ | refine Ext.drew ?_ | refine ext_gw ?_ _)))) ?_); intro g4) | ((with_reducible refine seq_gw (hlv.out _ (htb.out.ext (by repeat (first | exact Ext.refl _ | with_reducible assumption | refine Ext.alloc ?_ _ | refine Ext.drew ?_ | refine ext_gw ?_ _)))) ?_); intro g4))
    | (go_at_call 13; first | ((with_reducible refine seq_gw' (h1.out _ (by repeat (first | exact Ext.refl _ | with_reducible assumption | refine Ext.alloc ?_ _ | refine Ext.drew ?_ | refine ext_gw ?_ _))) ?_); intro g) | ((with_reducible refine seq_gw' (h2.out _) ?_); intro g) | ((with_reducible refine seq_gw' (h3.out _) ?_); intro g)))
  go_returns
  exact ⟨by first | rfl | simp, (by repeat (first | exact Ext.refl _ | with_reducible assumption | refine Ext.alloc ?_ _ | refine Ext.drew ?_ | refine ext_gw ?_ _))⟩

theorem own : ownKnob Tryd.prog.godebug = none := by kernel_rfl
theorem laidOut : laidOutB Tryd.prog = true := by kernel_rfl
/-- The variables that the row lists. -/
def laidL : List (String × DataW Unit) := [("math/bits.deBruijn32tab", Rows.laid_math_bits_deBruijn32tab), ("math/bits.deBruijn64tab", Rows.laid_math_bits_deBruijn64tab), ("internal/strconv.uint64pow10", Rows.laid_internal_strconv_uint64pow10)]
theorem door_met (os : Os) (args : Array Value) : laidMetH Tryd.prog laidL ((World.doorLaid Tryd.prog 24 os).forCall (fun _ _ => 0) ⟨#[], args, []⟩).memory :=
  laidMetH_of_parts3 (fuel := 8) (laidMet_of_run' 8 (by kernel_rfl) (by kernel_rfl)) (by kernel_rfl) (by kernel_rfl)
set_option maxRecDepth 100000 in
theorem lifted (os : Os) (started : os.Started) (H : Type) (enc : TypeId × Value → H) :
    ReturnsInHanded {} Tryd.checked os 4 .any (fun w args => (Rows.msgMakesSpec.pre enc Tryd.prog Tryd.f4 [] false w args ∧ laidMetH Tryd.prog laidL w) ∧ sizedMet enc Tryd.prog Tryd.f4 (OpenSpec.ofChange Rows.msgMakesSpec) false w args) (Rows.msgMakesSpec.post enc Tryd.prog Tryd.f4 false true false false) := by
  refine returnsInHanded_of_change_and (C := Tryd.checked) (X := fun w _ => laidMetH Tryd.prog laidL w) (fun _ _ _ hh h => h.of_heap hh) own started (by kernel_rfl) Tryd.func4
    (ChangeSpec.witness_shaped (enc := enc) (C := Tryd.checked) (os := os) (X := fun w _ => laidMetH Tryd.prog laidL w) false (World.doorLaid Tryd.prog 24 os) #[.int .i64 0, .int .i64 0, .int .i64 0, .slice none 0 0] 8 rfl (World.shaped_of_RefB (by kernel_rfl) (by kernel_rfl)) (by kernel_rfl) (by kernel_rfl) (by kernel_rfl) (door_met os _)) ?_
  intro W base args ds gs before hval0 hW _ hsz0 hL _
  have hsz : (DataW.weightsEach Tryd.prog (Tryd.f4.params.toList ++ Rows.msgMakesSpec.plain.varTypes Tryd.prog) (ds ++ gs)).all (· ≤ reachBytes) = true := hsz0
  clear hsz0
  have hval : ∀ (j : Nat) t v, Tryd.f4.params[j]? = some t → args[j]? = some v → Value.okWide Tryd.prog W .any base t v := hval0
  have hW' := hW
  obtain ⟨p, q, hA0, hV, rfl, hfz, hnd⟩ := hW
  have hA : DataW.TrodAll enc Tryd.prog W 0 (fun _ => true) true Tryd.f4.params.toList args.toList ds p := hA0
  rw [Tryd.params4] at hA hval hsz
  obtain ⟨v0, vs0, d0, ds0, p0, q0, hargs, rfl, rfl, h0, r0⟩ := trodAll_cons hA
  obtain ⟨v1, vs1, d1, ds1, p1, q1, rfl, rfl, rfl, h1, r1⟩ := trodAll_cons r0
  obtain ⟨v2, vs2, d2, ds2, p2, q2, rfl, rfl, rfl, h2, r2⟩ := trodAll_cons r1
  obtain ⟨v3, vs3, d3, ds3, p3, q3, rfl, rfl, rfl, h3, r3⟩ := trodAll_cons r2
  obtain ⟨rfl, rfl, rfl⟩ := trodAll_nil r3
  obtain rfl : args = #[v0, v1, v2, v3] := by cases args; simp_all
  obtain ⟨rfl, rfl⟩ := trodVars_none hV
  have k0 := h0
  have lt0 : ∀ x ∈ p0, x.block < W.heap.size := by obtain ⟨m, hm⟩ := k0; exact DataW.trod_lt m _ _ _ hm
  obtain ⟨i, rfl, _, _, wi⟩ := open_int Tryd.underlying3 (hval 0 3 v0 rfl rfl) h0
  have k1 := h1
  have lt1 : ∀ x ∈ p1, x.block < W.heap.size := by obtain ⟨m, hm⟩ := k1; exact DataW.trod_lt m _ _ _ hm
  obtain ⟨f, rfl, _, _, wf⟩ := open_int Tryd.underlying3 (hval 1 3 v1 rfl rfl) h1
  have k2 := h2
  have lt2 : ∀ x ∈ p2, x.block < W.heap.size := by obtain ⟨m, hm⟩ := k2; exact DataW.trod_lt m _ _ _ hm
  obtain ⟨t, rfl, _, _, wt⟩ := open_int Tryd.underlying3 (hval 2 3 v2 rfl rfl) h2
  have k3 := h3
  have lt3 : ∀ x ∈ p3, x.block < W.heap.size := by obtain ⟨m, hm⟩ := k3; exact DataW.trod_lt m _ _ _ hm
  obtain ⟨A3, n3, c3, rfl⟩ := okWide_slice Tryd.underlying24 (hval 3 24 v3 rfl rfl)
  have ⟨m3, hm3⟩ := h3
  obtain ⟨l, ll, hl, ql⟩ := open_row Tryd.underlying24 Tryd.underlying52 (by kernel_rfl) rfl rfl rfl (by kernel_rfl) (by kernel_rfl) (by kernel_rfl) Tryd.underlying50 Tryd.underlying3 Tryd.underlying9 hm3
  have zl : l.length * 32 ≤ 140737488351232 := by rw [ll]; exact sized_elems hsz (j := 3) (t := 24) (e := 52) rfl rfl Tryd.underlying24 (by kernel_rfl)
  clear hA0 hval0
  have hL' := hL
  rw [MakeChecks.laidMetH_plain _ _ _ (by kernel_rfl)] at hL'
  have ht : Tab W := Lib.tabIs_of_head (g := 1) (by kernel_rfl) (by kernel_rfl) Tryd.underlying129 Tryd.underlying82 (by kernel_rfl) (by kernel_rfl) (laidMet.tail (laidMet.tail hL'))
  refine (walk i f t l _ W zl hl ht).mono fun e W' ⟨he, bel⟩ => ?_
  subst he
  exact ⟨_, rfl, _, _, _, [], _, [], hW', trodAll_mk1 (shut_bool Tryd.underlying4 _), (trodAll_cons_mk (Below.trod laidOut (by kernel_rfl) (of_decide_eq_true (by kernel_rfl)) k0 bel lt0) (trodAll_cons_mk (Below.trod laidOut (by kernel_rfl) (of_decide_eq_true (by kernel_rfl)) k1 bel lt1) (trodAll_cons_mk (Below.trod laidOut (by kernel_rfl) (of_decide_eq_true (by kernel_rfl)) k2 bel lt2) (trodAll_cons_mk (Below.trod laidOut (by kernel_rfl) (of_decide_eq_true (by kernel_rfl)) k3 bel lt3) trodAll_mk0)))), rfl, bel.frame _, fun h => by cases h⟩

theorem over : Rows.msgMakesRow.holds Tryd.pinned (OpenSpec.ofChange Rows.msgMakesSpec) :=
  OpenClaim.holds_of_wide 4 Tryd.f4 rfl rfl rfl rfl rfl rfl rfl ⟨rfl, rfl, rfl, rfl, rfl⟩ rfl rfl rfl rfl rfl (by kernel_rfl) Tryd.func4 (by kernel_rfl)
    (of_decide_eq_true (by kernel_rfl)) (by unfold Func.isWrapper; first | (rw [if_pos (by decide +kernel)]; kernel_rfl) | (rw [if_neg (by decide +kernel)]; exact ⟨rfl, rfl⟩))
    (fun os started H enc _ => lifted os started H enc)

theorem msgMakes_holds : Rows.MsgMakesSaid := over
theorem msgMakes_card : Rows.MsgMakesCardSaid :=
  Claim7.holds_tied_plain_at .later [] [.data, .data, .data] true (true, "3a84535d0f060867b75cf113146c03c7ffb60d80c82f5b61757ee22490c00891") false
    over (fun _ h => by cases h) (by kernel_rfl) (fun _ h => by cases h) msgMakes_row_tie rfl ⟨rfl, rfl⟩ (by kernel_rfl) rfl
    (fun f fn hf hfn => by
      obtain rfl : f = 4 := Option.some.inj ((show Tryd.prog.funcNamed "rescind/rescindlaw08.MsgMakes" = some 4 by kernel_rfl).symm.trans hf) |>.symm
      obtain rfl : fn = Tryd.f4 := (Option.some.inj (Tryd.func4.symm.trans hfn)).symm
      exact ⟨by kernel_rfl, fun j t ht => by
        rw [Tryd.params4] at ht
        have hm : t ∈ [3, 3, 3, 24] := by simpa using Array.mem_of_getElem? ht
        have hall : ([3, 3, 3, 24].all fun u => !Tryd.prog.wantsStandIn u) = true := by kernel_rfl
        exact (show Tryd.prog.wantsStandIn t = false by simpa using List.all_eq_true.1 hall t hm)⟩)
    (by kernel_rfl)
end Go.Proofs.YtpfcmlmljolplabDoor.msgMakes
