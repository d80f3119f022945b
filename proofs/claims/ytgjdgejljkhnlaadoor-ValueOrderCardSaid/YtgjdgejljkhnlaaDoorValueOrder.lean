/-
  Layer 5 (value), 5.1, 5.4: for every three values, how one stands to another is what the document says, has the other sign the other way round, and goes on over three. Tied to the tables of the library and its error of size; no other condition.
-/
import Derived.Test.YtgjdgejljkhnlaaDoorValE
import Derived.Test.YtgjdgejljkhnlaaDoorValC
import Derived.Test.YtgjdgejljkhnlaaDoorValQ
import Derived.WalkKit
import Derived.ProofKit
import Derived.OpenShut
import Derived.ShutString
import Derived.ChangeOld
import Derived.Below
import Derived.Lib.SmallJoins
import Derived.Test.YtgjdgejljkhnlaaDoorTie
import Derived.Test.YtgjdgejljkhnlaaDoorCards
import Derived.LaidMore
import Derived.Stop.Joined
import Derived.SevenTiedAt
import Derived.Lib.LaidTab
import Derived.Stop.LaidErr
set_option linter.unusedVariables false
set_option linter.unusedSimpArgs false
namespace Go.Proofs.YtgjdgejljkhnlaaDoor.valueOrder
open Go.ChangeShapes Go.WideShapes Go.ChangeAt Go.RowKit Go.Joins
open Go.ChangeMaps (open_string shut_string)
attribute [local go_sem] GW.cell GW.frozen In.eq_true In.le_true In.ne In.ne' In.ne_add In.ne_add' In.lt_add Upto.le_true Upto.le_add Upto.lt_add
theorem star : "*" ++ "errors.errorString" = "*errors.errorString" := by decide

abbrev CV (f : FuncId) (u v : Value) (x : Int) : Prop := ∀ w, Calls Tryd.prog f #[u, v] w fun e w' => e = .returned (.int .i64 x) ∧ Ext w w'
abbrev MV (u : Value) (b : Bool) : Prop := ∀ w, Calls Tryd.prog 6 #[u] w fun e w' => e = .returned (.bool b) ∧ Ext w w'
set_option maxHeartbeats 8000000 in
set_option maxRecDepth 100000 in
theorem some_not (k1 n1 k2 n2 k3 n3 : Int) (s1 s2 s3 : ByteArray) (w : World) (hE : ErrR w) (x : Int) (b1 b2 b3 : Bool) (hx : x = -1 ∨ x = 0 ∨ x = 1) (hb : b1 = false ∨ (b1 = true ∧ b2 = false) ∨ (b1 = true ∧ b2 = true ∧ b3 = false))
    (hab : Hid (CV 12 (val k1 n1 s1) (val k2 n2 s2) x)) (rab : Hid (CV 13 (val k1 n1 s1) (val k2 n2 s2) x)) (hba : Hid (CV 12 (val k2 n2 s2) (val k1 n1 s1) (-x))) (ma : Hid (MV (val k1 n1 s1) b1)) (mb : Hid (MV (val k2 n2 s2) b2)) (mc : Hid (MV (val k3 n3 s3) b3)) :
    Calls Tryd.prog 4 #[val k1 n1 s1, val k2 n2 s2, val k3 n3 s3] w fun e w' => e = .returned (.bool true) ∧ Ext w w' := by
  have hE3 := hide (errR_ext hE ((((Ext.refl w).alloc (.cells #[.int .i64 k1, .int .i64 n1, .string s1] 24)).alloc (.cells #[.int .i64 k2, .int .i64 n2, .string s2] 24)).alloc (.cells #[.int .i64 k3, .int .i64 n3, .string s3] 24)))
  have hlv := hide (fun w h => live_c w h)
  clear hE
  rcases hx with rfl | rfl | rfl <;> rcases hb with rfl | ⟨rfl, rfl⟩ | ⟨rfl, rfl, rfl⟩
  all_goals
    go_enter Tryd.func4, Tryd.ntmps4
    go_wp2_with (first | (go_at_call 12; (first | (with_reducible refine seq_gw' (hab.out _) ?_) | (with_reducible refine seq_gw (hab.out _) ?_) | (with_reducible refine seq_gw' (hba.out _) ?_) | (with_reducible refine seq_gw (hba.out _) ?_)); intro g) | (go_at_call 13; (first | (with_reducible refine seq_gw' (rab.out _) ?_) | (with_reducible refine seq_gw (rab.out _) ?_)); intro g) | (go_at_call 6; (first | (with_reducible refine seq_gw' (ma.out _) ?_) | (with_reducible refine seq_gw (ma.out _) ?_) | (with_reducible refine seq_gw' (mb.out _) ?_) | (with_reducible refine seq_gw (mb.out _) ?_) | (with_reducible refine seq_gw' (mc.out _) ?_) | (with_reducible refine seq_gw (mc.out _) ?_)); intro g) | (go_at_call 10; with_reducible refine seq_gw' (hlv.out _ (errR_ext hE3.out (GW.grown _))) ?_; intro g))
    go_returns
    exact ⟨by first | rfl | simp, (((Ext.refl w).alloc _).alloc _).alloc _ |>.trans g.grown⟩

set_option maxHeartbeats 8000000 in
set_option maxRecDepth 100000 in
theorem all_may (k1 n1 k2 n2 k3 n3 : Int) (s1 s2 s3 : ByteArray) (w : World) (hE : ErrR w) (x y z : Int) (e : Bool) (hx : (x = -1 ∧ y = -1 ∧ z = -1 ∧ e = false) ∨ (x = -1 ∧ y = 0 ∧ z = -1 ∧ e = false) ∨ (x = 0 ∧ y = -1 ∧ z = -1 ∧ e = true) ∨ (x = 0 ∧ y = 0 ∧ z = 0 ∧ e = true) ∨ (x = 1 ∧ e = false) ∨ (x = -1 ∧ y = 1 ∧ e = false) ∨ (x = 0 ∧ y = 1 ∧ e = true))
    (hab : Hid (CV 12 (val k1 n1 s1) (val k2 n2 s2) x)) (rab : Hid (CV 13 (val k1 n1 s1) (val k2 n2 s2) x)) (hba : Hid (CV 12 (val k2 n2 s2) (val k1 n1 s1) (-x))) (hbc : Hid (CV 12 (val k2 n2 s2) (val k3 n3 s3) y)) (hac : Hid (CV 12 (val k1 n1 s1) (val k3 n3 s3) z)) (ma : Hid (MV (val k1 n1 s1) true)) (mb : Hid (MV (val k2 n2 s2) true)) (mc : Hid (MV (val k3 n3 s3) true))
    (hq : ∀ w, (binOp .eql 24 (val k1 n1 s1) (val k2 n2 s2)).run Tryd.prog w = .ok (.bool e) w) :
    Calls Tryd.prog 4 #[val k1 n1 s1, val k2 n2 s2, val k3 n3 s3] w fun e w' => e = .returned (.bool true) ∧ Ext w w' := by
  have hE3 := hide (errR_ext hE ((((Ext.refl w).alloc (.cells #[.int .i64 k1, .int .i64 n1, .string s1] 24)).alloc (.cells #[.int .i64 k2, .int .i64 n2, .string s2] 24)).alloc (.cells #[.int .i64 k3, .int .i64 n3, .string s3] 24)))
  have hlv := hide (fun w h => live_c w h)
  clear hE
  rcases hx with ⟨rfl, rfl, rfl, rfl⟩ | ⟨rfl, rfl, rfl, rfl⟩ | ⟨rfl, rfl, rfl, rfl⟩ | ⟨rfl, rfl, rfl, rfl⟩ | ⟨rfl, rfl⟩ | ⟨rfl, rfl, rfl⟩ | ⟨rfl, rfl, rfl⟩
  all_goals
    go_enter Tryd.func4, Tryd.ntmps4
    go_wp2_with (first | (go_at_call 12; (first | (with_reducible refine seq_gw' (hab.out _) ?_) | (with_reducible refine seq_gw (hab.out _) ?_) | (with_reducible refine seq_gw' (hba.out _) ?_) | (with_reducible refine seq_gw (hba.out _) ?_) | (with_reducible refine seq_gw' (hbc.out _) ?_) | (with_reducible refine seq_gw (hbc.out _) ?_) | (with_reducible refine seq_gw' (hac.out _) ?_) | (with_reducible refine seq_gw (hac.out _) ?_)); intro g) | (go_at_call 13; (first | (with_reducible refine seq_gw' (rab.out _) ?_) | (with_reducible refine seq_gw (rab.out _) ?_)); intro g) | (go_at_call 6; (first | (with_reducible refine seq_gw' (ma.out _) ?_) | (with_reducible refine seq_gw (ma.out _) ?_) | (with_reducible refine seq_gw' (mb.out _) ?_) | (with_reducible refine seq_gw (mb.out _) ?_) | (with_reducible refine seq_gw' (mc.out _) ?_) | (with_reducible refine seq_gw (mc.out _) ?_)); intro g) | (go_at_call 10; with_reducible refine seq_gw' (hlv.out _ (errR_ext hE3.out (GW.grown _))) ?_; intro g))
    go_returns
    exact ⟨by first | rfl | simp, (((Ext.refl w).alloc _).alloc _).alloc _ |>.trans g.grown⟩

set_option maxHeartbeats 4000000 in
set_option maxRecDepth 100000 in
theorem walk (k1 n1 : Int) (s1 : ByteArray) (k2 n2 : Int) (s2 : ByteArray) (k3 n3 : Int) (s3 : ByteArray) (w : World)  (hE : ErrR w) : Calls Tryd.prog 4 #[val k1 n1 s1, val k2 n2 s2, val k3 n3 s3] w fun e w' => e = .returned (.bool true) ∧ Ext w w' := by
  have ca := compare_c k1 n1 k2 n2 s1 s2
  have cr := refCompare_c k1 n1 k2 n2 s1 s2
  have cb := compare_c k2 n2 k1 n1 s2 s1
  have cc := compare_c k2 n2 k3 n3 s2 s3
  have cd := compare_c k1 n1 k3 n3 s1 s3
  have ma := may_c k1 n1 s1
  have mb := may_c k2 n2 s2
  have mc := may_c k3 n3 s3
  rw [cmpV_swap (k1, n1, s1) (k2, n2, s2)] at cb
  have hx := cmpV_range (k1, n1, s1) (k2, n2, s2)
  by_cases h : (mayB k1 n1 s1 = true ∧ mayB k2 n2 s2 = true) ∧ mayB k3 n3 s3 = true
  · obtain ⟨⟨h1, h2⟩, h3⟩ := h
    have hz0 := cmpV_zero (a := (k1, n1, s1)) (b := (k2, n2, s2)) h1 h2
    have ht := cmpV_trans (a := (k1, n1, s1)) (b := (k2, n2, s2)) (c := (k3, n3, s3)) h1 h2 h3
    have hy := cmpV_range (k2, n2, s2) (k3, n3, s3)
    rw [h1] at ma
    rw [h2] at mb
    rw [h3] at mc
    obtain ⟨e, he, hq⟩ : ∃ e : Bool, (e = decide (cmpV (k1, n1, s1) (k2, n2, s2) = 0)) ∧ ∀ w, (binOp .eql 24 (val k1 n1 s1) (val k2 n2 s2)).run Tryd.prog w = .ok (.bool e) w := by
      by_cases hc : cmpV (k1, n1, s1) (k2, n2, s2) = 0
      · have := hz0.1 hc
        simp only [Prod.mk.injEq] at this
        obtain ⟨rfl, rfl, rfl⟩ := this
        exact ⟨true, by simp [hc], eq_same k1 n1 s1⟩
      · exact ⟨false, by simp [hc], eq_other (fun h => hc (hz0.2 (by rw [h.1, h.2.1, h.2.2])))⟩
    refine all_may k1 n1 k2 n2 k3 n3 s1 s2 s3 w hE _ _ _ e ?_ ca cr cb cc cd ma mb mc hq
    clear ca cr cb cc cd ma mb mc hq hz0
    generalize cmpV (k1, n1, s1) (k2, n2, s2) = x at hx ht he
    generalize cmpV (k2, n2, s2) (k3, n3, s3) = y at hy ht
    generalize cmpV (k1, n1, s1) (k3, n3, s3) = z at ht
    subst he
    rcases hx with rfl | rfl | rfl <;> rcases hy with rfl | rfl | rfl <;> simp at ht ⊢ <;> exact ht
  · refine some_not k1 n1 k2 n2 k3 n3 s1 s2 s3 w hE _ _ _ _ hx ?_ ca cr cb ma mb mc
    cases h1 : mayB k1 n1 s1
    · exact .inl rfl
    · cases h2 : mayB k2 n2 s2
      · exact .inr (.inl ⟨rfl, rfl⟩)
      · cases h3 : mayB k3 n3 s3
        · exact .inr (.inr ⟨rfl, rfl, rfl⟩)
        · exact absurd ⟨⟨h1, h2⟩, h3⟩ h

theorem own : ownKnob Tryd.prog.godebug = none := by kernel_rfl
theorem laidOut : laidOutB Tryd.prog = true := by kernel_rfl
/-- The variables that the row lists. -/
def laidL : List (String × DataW Unit) := [("math/bits.deBruijn32tab", Rows.laid_math_bits_deBruijn32tab), ("math/bits.deBruijn64tab", Rows.laid_math_bits_deBruijn64tab), ("internal/strconv.uint64pow10", Rows.laid_internal_strconv_uint64pow10), ("strconv.ErrRange", Rows.laid_strconv_ErrRange), ("strconv.ErrSyntax", Rows.laid_strconv_ErrSyntax)]
theorem door_met (os : Os) (args : Array Value) : laidMetH Tryd.prog laidL ((World.doorLaid Tryd.prog 62 os).forCall (fun _ _ => 0) ⟨#[], args, []⟩).memory :=
  laidMetH_of_parts3 (fuel := 8) (laidMet_of_run' 8 (by kernel_rfl) (by kernel_rfl)) (by kernel_rfl) (by kernel_rfl)
set_option maxRecDepth 100000 in
theorem lifted (os : Os) (started : os.Started) (H : Type) (enc : TypeId × Value → H) :
    ReturnsInHanded {} Tryd.checked os 4 .any (fun w args => (Rows.valueOrderSpec.pre enc Tryd.prog Tryd.f4 [] false w args ∧ laidMetH Tryd.prog laidL w) ∧ sizedMet enc Tryd.prog Tryd.f4 (OpenSpec.ofChange Rows.valueOrderSpec) false w args) (Rows.valueOrderSpec.post enc Tryd.prog Tryd.f4 false true false false) := by
  refine returnsInHanded_of_change_and (C := Tryd.checked) (X := fun w _ => laidMetH Tryd.prog laidL w) (fun _ _ _ hh h => h.of_heap hh) own started (by kernel_rfl) Tryd.func4
    (ChangeSpec.witness_shaped (enc := enc) (C := Tryd.checked) (os := os) (X := fun w _ => laidMetH Tryd.prog laidL w) false (World.doorLaid Tryd.prog 62 os) #[.agg #[.int .i64 0, .int .i64 0, .string ByteArray.empty], .agg #[.int .i64 0, .int .i64 0, .string ByteArray.empty], .agg #[.int .i64 0, .int .i64 0, .string ByteArray.empty]] 8 rfl (World.shaped_of_RefB (by kernel_rfl) (by kernel_rfl)) (by kernel_rfl) (by kernel_rfl) (by kernel_rfl) (door_met os _)) ?_
  intro W base args ds gs before hval0 hW _ _ hL _
  have hval : ∀ (j : Nat) t v, Tryd.f4.params[j]? = some t → args[j]? = some v → Value.okWide Tryd.prog W .any base t v := hval0
  have hW' := hW
  obtain ⟨p, q, hA0, hV, rfl, hfz, hnd⟩ := hW
  have hA : DataW.TrodAll enc Tryd.prog W 0 (fun _ => true) true Tryd.f4.params.toList args.toList ds p := hA0
  rw [Tryd.params4] at hA hval
  obtain ⟨v0, vs0, d0, ds0, p0, q0, hargs, rfl, rfl, h0, r0⟩ := trodAll_cons hA
  obtain ⟨v1, vs1, d1, ds1, p1, q1, rfl, rfl, rfl, h1, r1⟩ := trodAll_cons r0
  obtain ⟨v2, vs2, d2, ds2, p2, q2, rfl, rfl, rfl, h2, r2⟩ := trodAll_cons r1
  obtain ⟨rfl, rfl, rfl⟩ := trodAll_nil r2
  obtain rfl : args = #[v0, v1, v2] := by cases args; simp_all
  obtain ⟨rfl, rfl⟩ := trodVars_none hV
  have k0 := h0
  have lt0 : ∀ x ∈ p0, x.block < W.heap.size := by obtain ⟨m, hm⟩ := k0; exact DataW.trod_lt m _ _ _ hm
  obtain ⟨c0a, c0b, c0c, y0a, y0b, y0c, m0, rfl, _, _, hy0a, hy0b, hy0c⟩ := open_agg3 Tryd.underlying24 (by kernel_rfl) (by kernel_rfl) (hval 0 24 v0 rfl rfl) h0
  obtain ⟨vak, e0a, _, wvak⟩ := DataW.trod_int Tryd.underlying22 hy0a
  simp at e0a; subst e0a
  obtain ⟨van, e0b, _, wvan⟩ := DataW.trod_int Tryd.underlying3 hy0b
  simp at e0b; subst e0b
  obtain ⟨vas, e0c, _, wvas⟩ := DataW.trod_string Tryd.underlying9 hy0c
  simp at e0c; subst e0c
  have k1 := h1
  have lt1 : ∀ x ∈ p1, x.block < W.heap.size := by obtain ⟨m, hm⟩ := k1; exact DataW.trod_lt m _ _ _ hm
  obtain ⟨c1a, c1b, c1c, y1a, y1b, y1c, m1, rfl, _, _, hy1a, hy1b, hy1c⟩ := open_agg3 Tryd.underlying24 (by kernel_rfl) (by kernel_rfl) (hval 1 24 v1 rfl rfl) h1
  obtain ⟨vbk, e1a, _, wvbk⟩ := DataW.trod_int Tryd.underlying22 hy1a
  simp at e1a; subst e1a
  obtain ⟨vbn, e1b, _, wvbn⟩ := DataW.trod_int Tryd.underlying3 hy1b
  simp at e1b; subst e1b
  obtain ⟨vbs, e1c, _, wvbs⟩ := DataW.trod_string Tryd.underlying9 hy1c
  simp at e1c; subst e1c
  have k2 := h2
  have lt2 : ∀ x ∈ p2, x.block < W.heap.size := by obtain ⟨m, hm⟩ := k2; exact DataW.trod_lt m _ _ _ hm
  obtain ⟨c2a, c2b, c2c, y2a, y2b, y2c, m2, rfl, _, _, hy2a, hy2b, hy2c⟩ := open_agg3 Tryd.underlying24 (by kernel_rfl) (by kernel_rfl) (hval 2 24 v2 rfl rfl) h2
  obtain ⟨vck, e2a, _, wvck⟩ := DataW.trod_int Tryd.underlying22 hy2a
  simp at e2a; subst e2a
  obtain ⟨vcn, e2b, _, wvcn⟩ := DataW.trod_int Tryd.underlying3 hy2b
  simp at e2b; subst e2b
  obtain ⟨vcs, e2c, _, wvcs⟩ := DataW.trod_string Tryd.underlying9 hy2c
  simp at e2c; subst e2c
  clear hA0 hval0
  have hL' := hL
  rw [MakeChecks.laidMetH_plain _ _ _ (by kernel_rfl)] at hL'
  have ht : Tab W := Lib.tabIs_of_head (g := 3) (by kernel_rfl) (by kernel_rfl) Tryd.underlying85 Tryd.underlying61 (by kernel_rfl) (by kernel_rfl) (laidMet.tail (laidMet.tail hL'))
  have hER : ErrR W := by
    obtain ⟨a0, s0, hv0, _, _, _⟩ := laid_sentinel (g := 1) (nm := "*errors.errorString") (laidMet.tail (laidMet.tail (laidMet.tail hL'))) (by kernel_rfl) (by kernel_rfl) Tryd.underlying50 (fun u hu => typeName_ptr_named (nm := "errors.errorString") (by rw [star]; kernel_rfl) (by kernel_rfl) (by decide) u (by rw [star]; exact hu)) Tryd.underlying74 Tryd.underlying76 rfl rfl Tryd.underlying9 (by kernel_rfl) (by kernel_rfl)
    exact ⟨_, _, hv0⟩
  refine (walk vak van vas vbk vbn vbs vck vcn vcs W hER).mono fun e W' ⟨he, bel⟩ => ?_
  subst he
  exact ⟨_, rfl, _, _, _, [], _, [], hW', trodAll_mk1 (shut_bool Tryd.underlying4 _), (trodAll_cons_mk (Below.trod laidOut (by kernel_rfl) (of_decide_eq_true (by kernel_rfl)) k0 bel lt0) (trodAll_cons_mk (Below.trod laidOut (by kernel_rfl) (of_decide_eq_true (by kernel_rfl)) k1 bel lt1) (trodAll_cons_mk (Below.trod laidOut (by kernel_rfl) (of_decide_eq_true (by kernel_rfl)) k2 bel lt2) trodAll_mk0))), rfl, bel.frame _, fun h => by cases h⟩

theorem over : Rows.valueOrderRow.holds Tryd.pinned (OpenSpec.ofChange Rows.valueOrderSpec) :=
  OpenClaim.holds_of_wide 4 Tryd.f4 rfl rfl rfl rfl rfl rfl rfl ⟨rfl, rfl, rfl, rfl, rfl⟩ rfl rfl rfl rfl rfl (by kernel_rfl) Tryd.func4 (by kernel_rfl)
    (of_decide_eq_true (by kernel_rfl)) (by unfold Func.isWrapper; first | (rw [if_pos (by decide +kernel)]; kernel_rfl) | (rw [if_neg (by decide +kernel)]; exact ⟨rfl, rfl⟩))
    (fun os started H enc _ => lifted os started H enc)

theorem valueOrder_holds : Rows.ValueOrderSaid := over
theorem valueOrder_card : Rows.ValueOrderCardSaid :=
  Claim7.holds_tied_plain_at .later [] [.data, .data, .data, .sentinel, .sentinel] true (true, "be64c3f79c5cdbc042a8efc51a7336da4b4efa15cbca253a2ef51db7f8a83f9c") true
    over (fun _ h => by cases h) (by kernel_rfl) (fun _ h => by cases h) valueOrder_row_tie rfl ⟨rfl, rfl⟩ (by kernel_rfl) rfl
    (fun f fn hf hfn => by
      obtain rfl : f = 4 := Option.some.inj ((show Tryd.prog.funcNamed "rescind/rescindlaw05.ValueOrder" = some 4 by kernel_rfl).symm.trans hf) |>.symm
      obtain rfl : fn = Tryd.f4 := (Option.some.inj (Tryd.func4.symm.trans hfn)).symm
      exact ⟨by kernel_rfl, fun j t ht => by
        rw [Tryd.params4] at ht
        have hm : t ∈ [24, 24, 24] := by simpa using Array.mem_of_getElem? ht
        have hall : ([24, 24, 24].all fun u => !Tryd.prog.wantsStandIn u) = true := by kernel_rfl
        exact (show Tryd.prog.wantsStandIn t = false by simpa using List.all_eq_true.1 hall t hm)⟩)
    (by kernel_rfl)
end Go.Proofs.YtgjdgejljkhnlaaDoor.valueOrder
