/-
  Layer 8 (msg), 8.1: for every two messages, what is wrong with one, its sync time, and which are the same, is as the document says. Tied to the tables of the library; no other condition.
-/
import Derived.Test.YtpfcmlmljolplabDoorMsgL
import Derived.Test.YtpfcmlmljolplabDoorMsgB
import Derived.Test.YtpfcmlmljolplabDoorArgM
import Derived.Test.YtpfcmlmljolplabDoorReg
import Derived.Test.YtpfcmlmljolplabDoorReg2
import Derived.Test.YtpfcmlmljolplabDoorReg3
import Derived.Test.YtpfcmlmljolplabDoorArg
import Derived.WalkKit
import Derived.ProofKit
import Derived.OpenShut
import Derived.ShutString
import Derived.ChangeOld
import Derived.Below
import Derived.Lib.SmallJoins
import Derived.Test.YtpfcmlmljolplabDoorTie
import Derived.Test.YtpfcmlmljolplabDoorCards
import Derived.LaidMore
import Derived.Stop.Joined
import Derived.SevenTiedAt
import Derived.Lib.LaidTab
import Derived.Stop.LaidErr
set_option linter.unusedVariables false
set_option linter.unusedSimpArgs false
namespace Go.Proofs.YtpfcmlmljolplabDoor.msgChecks
open Go.ChangeShapes Go.WideShapes Go.ChangeAt Go.RowKit Go.Joins
open Go.ChangeMaps (open_string shut_string)
attribute [local go_sem] GW.cell GW.frozen In.eq_true In.le_true In.ne In.ne' In.ne_add In.ne_add' In.lt_add Upto.le_true Upto.le_add Upto.lt_add
set_option maxHeartbeats 8000000 in
set_option maxRecDepth 100000 in
theorem walk (k i f t : Int) (l : List Vl) (v : Value) (k' i' f' t' : Int) (m : List Vl) (u : Value) (w : World) (hl : Rw w [] v l) (hm : Rw w [] u m) (ht : Tab w) : Calls Tryd.prog 3 #[mg k i f t v, mg k' i' f' t' u] w fun e w' => e = .returned (.bool true) ∧ Ext w w' := by
  have hc := hide (fun w' (hX : Ext w w') => check_c k i f t l v w' (Sl.ext hl hX))
  have hrc := hide (fun w' (hX : Ext w w') => refCheck_c k i f t l v w' (Sl.ext hl hX))
  have hs := hide (fun w' (hX : Ext w w') => sync_c k i f t l v w' (Sl.ext hl hX))
  have hrs := hide (fun w' (hX : Ext w w') => refSync_c k i f t l v w' (Sl.ext hl hX))
  have hq := hide (fun w' (hX : Ext w w') => msgSame_c k i f t l v k' i' f' t' m u w' (Sl.ext hl hX) (Sl.ext hm hX))
  have hrq := hide (fun w' (hX : Ext w w') => refMsgSame_c k i f t l v k' i' f' t' m u w' (Sl.ext hl hX) (Sl.ext hm hX))
  have hlv := hide (fun w h => msgLive_c w h)
  have htb := hide ht
  generalize mchk k i f t l = x at *
  generalize msync k i f t l = y at *
  generalize msame k i f t l k' i' f' t' m = b at *
  obtain ⟨A, c, rfl, -, -, -⟩ := rw_form hl
  obtain ⟨A', c', rfl, -, -, -⟩ := rw_form hm
  clear hl hm ht
  have hX0 := hide (((Ext.refl w).alloc (.cells #[.int .i64 k, .int .i64 i, .int .i64 f, .int .i64 t, .slice A l.length c] 26)).alloc (.cells #[.int .i64 k', .int .i64 i', .int .i64 f', .int .i64 t', .slice A' m.length c'] 26))
  go_enter Tryd.func3, Tryd.ntmps3
  go_wp2_with fail
  refine wp_region_gw (by kernel_rfl) (by kernel_rfl) ?_
  repeat (go_big_quiet_step (first
    | (go_at_call 7; with_reducible exact quiet_gw (hlv.out _ (htb.out.ext (hX0.out.trans (GW.grown _)))))
    | (go_at_call 8; with_reducible exact quiet_gw (hc.out _ (hX0.out.trans (GW.grown _))))
    | (go_at_call 9; with_reducible exact quiet_gw (hrc.out _ (hX0.out.trans (GW.grown _))))
    | (go_at_call 10; with_reducible exact quiet_gw (hs.out _ (hX0.out.trans (GW.grown _))))
    | (go_at_call 11; with_reducible exact quiet_gw (hrs.out _ (hX0.out.trans (GW.grown _))))
    | (go_at_call 12; with_reducible exact quiet_gw (hq.out _ (hX0.out.trans (GW.grown _))))
    | (go_at_call 13; with_reducible exact quiet_gw (hrq.out _ (hX0.out.trans (GW.grown _))))))
  refine wpQuiet_nil ?_
  intro g
  go_wp2_with fail
  go_returns
  exact ⟨by first | rfl | simp, hX0.out.trans g.grown⟩

theorem own : ownKnob Tryd.prog.godebug = none := by kernel_rfl
theorem laidOut : laidOutB Tryd.prog = true := by kernel_rfl
/-- The variables that the row lists. -/
def laidL : List (String × DataW Unit) := [("math/bits.deBruijn32tab", Rows.laid_math_bits_deBruijn32tab), ("math/bits.deBruijn64tab", Rows.laid_math_bits_deBruijn64tab), ("internal/strconv.uint64pow10", Rows.laid_internal_strconv_uint64pow10)]
theorem door_met (os : Os) (args : Array Value) : laidMetH Tryd.prog laidL ((World.doorLaid Tryd.prog 24 os).forCall (fun _ _ => 0) ⟨#[], args, []⟩).memory :=
  laidMetH_of_parts3 (fuel := 8) (laidMet_of_run' 8 (by kernel_rfl) (by kernel_rfl)) (by kernel_rfl) (by kernel_rfl)
set_option maxRecDepth 100000 in
theorem lifted (os : Os) (started : os.Started) (H : Type) (enc : TypeId × Value → H) :
    ReturnsInHanded {} Tryd.checked os 3 .any (fun w args => (Rows.msgChecksSpec.pre enc Tryd.prog Tryd.f3 [] false w args ∧ laidMetH Tryd.prog laidL w) ∧ sizedMet enc Tryd.prog Tryd.f3 (OpenSpec.ofChange Rows.msgChecksSpec) false w args) (Rows.msgChecksSpec.post enc Tryd.prog Tryd.f3 false true false false) := by
  refine returnsInHanded_of_change_and (C := Tryd.checked) (X := fun w _ => laidMetH Tryd.prog laidL w) (fun _ _ _ hh h => h.of_heap hh) own started (by kernel_rfl) Tryd.func3
    (ChangeSpec.witness_shaped (enc := enc) (C := Tryd.checked) (os := os) (X := fun w _ => laidMetH Tryd.prog laidL w) false (World.doorLaid Tryd.prog 24 os) #[.agg #[.int .i64 0, .int .i64 0, .int .i64 0, .int .i64 0, .slice none 0 0], .agg #[.int .i64 0, .int .i64 0, .int .i64 0, .int .i64 0, .slice none 0 0]] 8 rfl (World.shaped_of_RefB (by kernel_rfl) (by kernel_rfl)) (by kernel_rfl) (by kernel_rfl) (by kernel_rfl) (door_met os _)) ?_
  intro W base args ds gs before hval0 hW _ _ hL _
  have hval : ∀ (j : Nat) t v, Tryd.f3.params[j]? = some t → args[j]? = some v → Value.okWide Tryd.prog W .any base t v := hval0
  have hW' := hW
  obtain ⟨p, q, hA0, hV, rfl, hfz, hnd⟩ := hW
  have hA : DataW.TrodAll enc Tryd.prog W 0 (fun _ => true) true Tryd.f3.params.toList args.toList ds p := hA0
  rw [Tryd.params3] at hA hval
  obtain ⟨v0, vs0, d0, ds0, p0, q0, hargs, rfl, rfl, h0, r0⟩ := trodAll_cons hA
  obtain ⟨v1, vs1, d1, ds1, p1, q1, rfl, rfl, rfl, h1, r1⟩ := trodAll_cons r0
  obtain ⟨rfl, rfl, rfl⟩ := trodAll_nil r1
  obtain rfl : args = #[v0, v1] := by cases args; simp_all
  obtain ⟨rfl, rfl⟩ := trodVars_none hV
  have k0 := h0
  have lt0 : ∀ x ∈ p0, x.block < W.heap.size := by obtain ⟨m, hm⟩ := k0; exact DataW.trod_lt m _ _ _ hm
  obtain ⟨ak, ai, af, at', al, av, rfl, ha, wak, wai, waf, wat, qa⟩ := open_msg Tryd.underlying26 rfl rfl rfl rfl rfl (by kernel_rfl) (by kernel_rfl) (by kernel_rfl) (by kernel_rfl) (by kernel_rfl) Tryd.underlying22 Tryd.underlying3 Tryd.underlying3 Tryd.underlying3 Tryd.underlying24 Tryd.underlying52 (by kernel_rfl) rfl rfl rfl (by kernel_rfl) (by kernel_rfl) (by kernel_rfl) Tryd.underlying50 Tryd.underlying3 Tryd.underlying9 (by kernel_rfl) (hval 0 26 v0 rfl rfl) h0
  have k1 := h1
  have lt1 : ∀ x ∈ p1, x.block < W.heap.size := by obtain ⟨m, hm⟩ := k1; exact DataW.trod_lt m _ _ _ hm
  obtain ⟨bk, bi, bf, bt, bl, bv, rfl, hb, wbk, wbi, wbf, wbt, qb⟩ := open_msg Tryd.underlying26 rfl rfl rfl rfl rfl (by kernel_rfl) (by kernel_rfl) (by kernel_rfl) (by kernel_rfl) (by kernel_rfl) Tryd.underlying22 Tryd.underlying3 Tryd.underlying3 Tryd.underlying3 Tryd.underlying24 Tryd.underlying52 (by kernel_rfl) rfl rfl rfl (by kernel_rfl) (by kernel_rfl) (by kernel_rfl) Tryd.underlying50 Tryd.underlying3 Tryd.underlying9 (by kernel_rfl) (hval 1 26 v1 rfl rfl) h1
  clear hA0 hval0
  have hL' := hL
  rw [MakeChecks.laidMetH_plain _ _ _ (by kernel_rfl)] at hL'
  have ht : Tab W := Lib.tabIs_of_head (g := 1) (by kernel_rfl) (by kernel_rfl) Tryd.underlying129 Tryd.underlying82 (by kernel_rfl) (by kernel_rfl) (laidMet.tail (laidMet.tail hL'))
  refine (walk ak ai af at' al av bk bi bf bt bl bv W ha hb ht).mono fun e W' ⟨he, bel⟩ => ?_
  subst he
  exact ⟨_, rfl, _, _, _, [], _, [], hW', trodAll_mk1 (shut_bool Tryd.underlying4 _), (trodAll_cons_mk (Below.trod laidOut (by kernel_rfl) (of_decide_eq_true (by kernel_rfl)) k0 bel lt0) (trodAll_cons_mk (Below.trod laidOut (by kernel_rfl) (of_decide_eq_true (by kernel_rfl)) k1 bel lt1) trodAll_mk0)), rfl, bel.frame _, fun h => by cases h⟩

theorem over : Rows.msgChecksRow.holds Tryd.pinned (OpenSpec.ofChange Rows.msgChecksSpec) :=
  OpenClaim.holds_of_wide 3 Tryd.f3 rfl rfl rfl rfl rfl rfl rfl ⟨rfl, rfl, rfl, rfl, rfl⟩ rfl rfl rfl rfl rfl (by kernel_rfl) Tryd.func3 (by kernel_rfl)
    (of_decide_eq_true (by kernel_rfl)) (by unfold Func.isWrapper; first | (rw [if_pos (by decide +kernel)]; kernel_rfl) | (rw [if_neg (by decide +kernel)]; exact ⟨rfl, rfl⟩))
    (fun os started H enc _ => lifted os started H enc)

theorem msgChecks_holds : Rows.MsgChecksSaid := over
theorem msgChecks_card : Rows.MsgChecksCardSaid :=
  Claim7.holds_tied_plain_at .later [] [.data, .data, .data] true (true, "3a84535d0f060867b75cf113146c03c7ffb60d80c82f5b61757ee22490c00891") false
    over (fun _ h => by cases h) (by kernel_rfl) (fun _ h => by cases h) msgChecks_row_tie rfl ⟨rfl, rfl⟩ (by kernel_rfl) rfl
    (fun f fn hf hfn => by
      obtain rfl : f = 3 := Option.some.inj ((show Tryd.prog.funcNamed "rescind/rescindlaw08.MsgChecks" = some 3 by kernel_rfl).symm.trans hf) |>.symm
      obtain rfl : fn = Tryd.f3 := (Option.some.inj (Tryd.func3.symm.trans hfn)).symm
      exact ⟨by kernel_rfl, fun j t ht => by
        rw [Tryd.params3] at ht
        have hm : t ∈ [26, 26] := by simpa using Array.mem_of_getElem? ht
        have hall : ([26, 26].all fun u => !Tryd.prog.wantsStandIn u) = true := by kernel_rfl
        exact (show Tryd.prog.wantsStandIn t = false by simpa using List.all_eq_true.1 hall t hm)⟩)
    (by kernel_rfl)
end Go.Proofs.YtpfcmlmljolplabDoor.msgChecks
