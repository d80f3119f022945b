/-
  Layer 5 (value), 5.2: for every bytes, which are read as values, one after another, and what is wrong with others, is what the document says. Tied to the tables of the library and its error of size; no other condition.
-/
import Derived.Test.YtgjdgejljkhnlabDoorValE
import Derived.Test.YtgjdgejljkhnlabDoorValQ
import Derived.Test.YtgjdgejljkhnlabDoorValX
import Derived.Test.YtgjdgejljkhnlabDoorValY
import Derived.Test.YtgjdgejljkhnlabDoorReg
import Derived.Test.YtgjdgejljkhnlabDoorArg
import Derived.WalkKit
import Derived.ProofKit
import Derived.OpenShut
import Derived.ShutString
import Derived.ChangeOld
import Derived.Below
import Derived.Lib.SmallJoins
import Derived.Test.YtgjdgejljkhnlabDoorTie
import Derived.Test.YtgjdgejljkhnlabDoorCards
import Derived.LaidMore
import Derived.Stop.Joined
import Derived.SevenTiedAt
import Derived.Lib.LaidTab
import Derived.Stop.LaidErr
set_option linter.unusedVariables false
set_option linter.unusedSimpArgs false
namespace Go.Proofs.YtgjdgejljkhnlabDoor.valueReads
open Go.ChangeShapes Go.WideShapes Go.ChangeAt Go.RowKit Go.Joins
open Go.ChangeMaps (open_string shut_string)
attribute [local go_sem] GW.cell GW.frozen In.eq_true In.le_true In.ne In.ne' In.ne_add In.ne_add' In.lt_add Upto.le_true Upto.le_add Upto.lt_add
theorem star : "*" ++ "errors.errorString" = "*errors.errorString" := by decide
theorem rdE_zero (l : List UInt8) : rdE l = 0 → (rdS l).2 = 0 := by
  rcases l with _ | ⟨c, r⟩
  · intro h; cases h
  · unfold rdE rdS
    dsimp only
    split
    · exact id
    · split
      · exact id
      · intro _; rfl
set_option maxHeartbeats 4000000 in
set_option maxRecDepth 100000 in
theorem walk (l : List UInt8) (va : Value) (w : World) (hll : l.length ≤ 140737488351232) (hv : By w [] va l) (hE : ErrR w) : Calls Tryd.prog 4 #[va] w fun e w' => e = .returned (.bool true) ∧ Ext w w' := by
  obtain ⟨A, cap0, rfl, _⟩ := id hv
  have hlm : l.length ≤ 9223372036854775806 := by omega
  replace hv := hide hv
  replace hE := hide hE
  have hlv := hide (fun w h => live_c w h)
  go_enter Tryd.func4, Tryd.ntmps4
  go_wp2_with (first | (go_at_call 11; refine (newReader_c [] _ l hll _ hv.out (by simp)).mono ?_; rintro ee w1 ⟨b, rfl, hb, hR1, hX1⟩; have hlit := World.ownsRow_lit (base := w1.heap.size) (e := 5) (size := 1) w1 #[] 0 (Nat.le_refl _) (by decide) rfl) | (at_builtin; refine wpl_app tBytes rfl (.tmp 12) (.tmp 13) rfl rfl hlit rfl (src_sl Tryd.underlying25 (Sl.ext hv.out (hX1.alloc _)) (bs_one _) (by omega)) (by unfold maxLen; omega) (by omega) (by simp) ?_; intro v2 w2 hp2 hg2 _; replace hp2 := own_app (l := []) hp2; rw [List.nil_append] at hp2; obtain ⟨A2, c2, rfl⟩ := own_form hp2))
  have hz1 := hX1.size
  have hX2 := ext_grown (hX1.alloc (.cells #[] 5)) hg2 (fun k hk => by have := (hlit.lt k hk).1; omega)
  have hE2 : Ext w1 w2 := ext_grown ((Ext.refl w1).alloc (.cells #[] 5)) hg2 (fun k hk => (hlit.lt k hk).1)
  have hz2 := hE2.size
  have hbl : b < w1.heap.size := hR1.blt
  have hcb : w2.heap.size ≠ b := by omega
  have hbS : w.heap.size ≤ b ∧ w.heap.size ≤ w2.heap.size := by omega
  have hR3 : Rdr (w2.alloc (.cells #[.slice A2 l.length c2, .int .i64 0] 38)) [w2.heap.size, b] b (l, 0) :=
    rdr_ext ((rdr_ext hR1 hE2).more (by intro x hx; simp at hx; rcases hx with rfl | rfl <;> simp) (by simp)) ((Ext.refl w2).alloc _)
  have hQ3 : Qdr (w2.alloc (.cells #[.slice A2 l.length c2, .int .i64 0] 38)) [w2.heap.size, b] w2.heap.size (l, 0) :=
    ⟨by simp, by simp, _, Ob.new w2 _ [_, .int .i64 0], (Sl.own (S := [b]) hp2 (by intro x hx; simp at hx; subst hx; exact hbl) |>.new (S' := [w2.heap.size, b]) (fun x hx => by simp at hx; rcases hx with rfl | rfl <;> simp)).alloc _⟩
  have hX3 := hX2.alloc (.cells #[.slice A2 l.length c2, .int .i64 0] 38)
  have hv3 := hide (Sl.ext hv.out hX3)
  clear hp2 hg2 hlit hE2 hz2 hX2 hR1
  generalize hc : w2.heap.size = c at *
  generalize (w2.alloc (.cells #[.slice A2 l.length c2, .int .i64 0] 38)) = w3 at *
  clear hc hv hz1 hbl hX1
  go_loopw [5] (fun i wr => ∃ (k : Nat) (st : List UInt8), i = .int .i64 k ∧ k ≤ l.length + 1 ∧ Rdr wr [c, b] b (st, 0) ∧ Qdr wr [c, b] c (st, 0) ∧ Ext w wr) (fun i _ => l.length + 1 - (intOf i).toNat)
  case atStart => exact ⟨0, l, rfl, Nat.zero_le _, hR3, hQ3, hX3⟩
  case round =>
    obtain ⟨k, st, rfl, hk, hR, hQ, hX⟩ := hrel
    by_cases hkl : k ≤ l.length
    · have hkI : (k : Int) ≤ (l.length : Int) := by omega
      obtain ⟨⟨k0, n0, s0⟩, hVa⟩ : ∃ a, rdV st = a := ⟨_, rfl⟩
      have hVl : vl (rdV st) = val k0 n0 s0 := by rw [hVa]; rfl
      obtain ⟨x, hXe⟩ : ∃ x, rdE st = x := ⟨_, rfl⟩
      obtain ⟨⟨l2, x2⟩, hSt⟩ : ∃ p, rdS st = p := ⟨_, rfl⟩
      have hz := rdE_zero st
      rw [hXe, hSt] at hz
      have hbl' : b < wr.heap.size := hR.blt
      have hcl' : c < wr.heap.size := hQ.blt
      have hq2 := neq_same k0 n0 s0
      replace hXe := hide hXe
      replace hSt := hide hSt
      replace hVl := hide hVl
      clear hVa hR3 hQ3 hX3
      by_cases h0 : x = 0
      · subst h0
        obtain rfl : x2 = 0 := hz rfl
        clear hz
        go_wp2_with (first | (go_at_call 12; refine (vread_c [c, b] b st _ hR).mono ?_; rintro ee w4 ⟨rfl, hR1, hF1⟩; rw [hVl.out, hXe.out]; rw [hSt.out] at hR1; have a0 := hbl'; have a1 := hF1.size; have hQ1 := hide (qdr_ext (hQ.fr hF1 (by simpa using hcb) (by simp)) ((Ext.refl w4).alloc (.cells #[.int .i64 k0, .int .i64 n0, .string s0] 24))); have O4 := hide (Ob.new w4 24 [.int .i64 k0, .int .i64 n0, .string s0]); replace hR1 := hide hR1) | (go_at_call 14; refine (qread_c [c, b] c st _ hQ1.out).mono ?_; rintro ee w5 ⟨rfl, hQ2, hF2⟩; rw [hVl.out, hXe.out]; rw [hSt.out] at hQ2; have hR2 := (rdr_ext hR1.out ((Ext.refl w4).alloc (.cells #[.int .i64 k0, .int .i64 n0, .string s0] 24))).fr hF2 (by simpa using Ne.symm hcb) (by simp); have a2 := hF2.size; have O5 := O4.out.fr hF2 (by simp; omega); have m0 := O5.cell 0 rfl; have m1 := O5.cell 1 rfl; have m2 := O5.cell 2 rfl; have hlt5 := O5.lt; haveI : In w4.heap.size w5 := ⟨hlt5⟩; have hXA := hide ((ext_fr ((ext_fr hX hF1 (by simp; omega)).alloc (.cells #[.int .i64 k0, .int .i64 n0, .string s0] 24)) hF2 (by simp; omega)).alloc (.cells #[.int .i64 k0, .int .i64 n0, .string s0] 24)); replace hQ2 := hide hQ2; replace hR2 := hide hR2))
        obtain ⟨A', cap', j0, j1, j2, j3, j4⟩ := hQ2.out.lay
        have hltc := hQ2.out.blt
        haveI : In c w5 := ⟨hltc⟩
        refine wp_region_gw (by kernel_rfl) (by kernel_rfl) ?_
        repeat (go_big_quiet_step (first | (go_at_call 13; with_reducible exact quiet_gw ((left_c _ b _ _ _ (rdr_ext hR2.out (((Ext.refl w5).alloc (.cells #[.int .i64 k0, .int .i64 n0, .string s0] 24)).trans (GW.grown _)))).mono fun e w' h => ⟨h.1, h.2 ▸ Ext.refl _⟩))))
        refine wpQuiet_nil ?_
        intro g
        go_wp2_with fail
        go_roundw
        case rel => exact ⟨k + 1, l2, by go_num, by omega, rdr_ext hR2.out (((Ext.refl w5).alloc (.cells #[.int .i64 k0, .int .i64 n0, .string s0] 24)).trans g.grown), qdr_ext hQ2.out (((Ext.refl w5).alloc (.cells #[.int .i64 k0, .int .i64 n0, .string s0] 24)).trans g.grown), hXA.out.trans g.grown⟩
        case measure => simp [intOf]; omega
      · clear hz
        replace h0 := hide h0
        have hx0 : (x != 0) = true := by simp [h0.out]
        go_wp2_with (first | (go_at_call 12; refine (vread_c [c, b] b st _ hR).mono ?_; rintro ee w4 ⟨rfl, hR1, hF1⟩; rw [hVl.out, hXe.out]; rw [hSt.out] at hR1; have a0 := hbl'; have a1 := hF1.size; have hQ1 := hide (qdr_ext (hQ.fr hF1 (by simpa using hcb) (by simp)) ((Ext.refl w4).alloc (.cells #[.int .i64 k0, .int .i64 n0, .string s0] 24))); have O4 := hide (Ob.new w4 24 [.int .i64 k0, .int .i64 n0, .string s0]); replace hR1 := hide hR1) | (go_at_call 14; refine (qread_c [c, b] c st _ hQ1.out).mono ?_; rintro ee w5 ⟨rfl, hQ2, hF2⟩; rw [hVl.out, hXe.out]; rw [hSt.out] at hQ2; have hR2 := (rdr_ext hR1.out ((Ext.refl w4).alloc (.cells #[.int .i64 k0, .int .i64 n0, .string s0] 24))).fr hF2 (by simpa using Ne.symm hcb) (by simp); have a2 := hF2.size; have O5 := O4.out.fr hF2 (by simp; omega); have m0 := O5.cell 0 rfl; have m1 := O5.cell 1 rfl; have m2 := O5.cell 2 rfl; have hlt5 := O5.lt; haveI : In w4.heap.size w5 := ⟨hlt5⟩; have hXA := hide ((ext_fr ((ext_fr hX hF1 (by simp; omega)).alloc (.cells #[.int .i64 k0, .int .i64 n0, .string s0] 24)) hF2 (by simp; omega)).alloc (.cells #[.int .i64 k0, .int .i64 n0, .string s0] 24)); replace hQ2 := hide hQ2; replace hR2 := hide hR2) | (go_at_call 10; refine (hlv.out _ (errR_ext hE.out hXA.out)).mono ?_; rintro ee wz ⟨rfl, hXz⟩))
        go_returns
        exact ⟨rfl, hXA.out.trans hXz⟩
    · have hkI : ¬ (k : Int) ≤ (l.length : Int) := by omega
      have hXA := hide hX
      go_wp2_with ((go_at_call 10; refine (hlv.out _ (errR_ext hE.out hXA.out)).mono ?_; rintro ee wz ⟨rfl, hXz⟩))
      go_returns
      exact ⟨rfl, hXA.out.trans hXz⟩

theorem own : ownKnob Tryd.prog.godebug = none := by kernel_rfl
theorem laidOut : laidOutB Tryd.prog = true := by kernel_rfl
/-- The variables that the row lists. -/
def laidL : List (String × DataW Unit) := [("math/bits.deBruijn32tab", Rows.laid_math_bits_deBruijn32tab), ("math/bits.deBruijn64tab", Rows.laid_math_bits_deBruijn64tab), ("internal/strconv.uint64pow10", Rows.laid_internal_strconv_uint64pow10), ("strconv.ErrRange", Rows.laid_strconv_ErrRange), ("strconv.ErrSyntax", Rows.laid_strconv_ErrSyntax)]
theorem door_met (os : Os) (args : Array Value) : laidMetH Tryd.prog laidL ((World.doorLaid Tryd.prog 62 os).forCall (fun _ _ => 0) ⟨#[], args, []⟩).memory :=
  laidMetH_of_parts3 (fuel := 8) (laidMet_of_run' 8 (by kernel_rfl) (by kernel_rfl)) (by kernel_rfl) (by kernel_rfl)
set_option maxRecDepth 100000 in
theorem lifted (os : Os) (started : os.Started) (H : Type) (enc : TypeId × Value → H) :
    ReturnsInHanded {} Tryd.checked os 4 .any (fun w args => (Rows.valueReadsSpec.pre enc Tryd.prog Tryd.f4 [] false w args ∧ laidMetH Tryd.prog laidL w) ∧ sizedMet enc Tryd.prog Tryd.f4 (OpenSpec.ofChange Rows.valueReadsSpec) false w args) (Rows.valueReadsSpec.post enc Tryd.prog Tryd.f4 false true false false) := by
  refine returnsInHanded_of_change_and (C := Tryd.checked) (X := fun w _ => laidMetH Tryd.prog laidL w) (fun _ _ _ hh h => h.of_heap hh) own started (by kernel_rfl) Tryd.func4
    (ChangeSpec.witness_shaped (enc := enc) (C := Tryd.checked) (os := os) (X := fun w _ => laidMetH Tryd.prog laidL w) false (World.doorLaid Tryd.prog 62 os) #[.slice none 0 0] 8 rfl (World.shaped_of_RefB (by kernel_rfl) (by kernel_rfl)) (by kernel_rfl) (by kernel_rfl) (by kernel_rfl) (door_met os _)) ?_
  intro W base args ds gs before hval0 hW _ hsz0 hL _
  have hsz : (DataW.weightsEach Tryd.prog (Tryd.f4.params.toList ++ Rows.valueReadsSpec.plain.varTypes Tryd.prog) (ds ++ gs)).all (· ≤ reachBytes) = true := hsz0
  clear hsz0
  have hval : ∀ (j : Nat) t v, Tryd.f4.params[j]? = some t → args[j]? = some v → Value.okWide Tryd.prog W .any base t v := hval0
  have hW' := hW
  obtain ⟨p, q, hA0, hV, rfl, hfz, hnd⟩ := hW
  have hA : DataW.TrodAll enc Tryd.prog W 0 (fun _ => true) true Tryd.f4.params.toList args.toList ds p := hA0
  rw [Tryd.params4] at hA hval hsz
  obtain ⟨v0, vs0, d0, ds0, p0, q0, hargs, rfl, rfl, h0, r0⟩ := trodAll_cons hA
  obtain ⟨rfl, rfl, rfl⟩ := trodAll_nil r0
  obtain rfl : args = #[v0] := by cases args; simp_all
  obtain ⟨rfl, rfl⟩ := trodVars_none hV
  have k0 := h0
  have lt0 : ∀ x ∈ p0, x.block < W.heap.size := by obtain ⟨m, hm⟩ := k0; exact DataW.trod_lt m _ _ _ hm
  obtain ⟨A0, n0, c0, rfl⟩ := okWide_slice Tryd.underlying25 (hval 0 25 v0 rfl rfl)
  have ⟨m0, hm0⟩ := h0
  obtain ⟨l, ll, hl⟩ := open_bytes Tryd.underlying25 Tryd.underlying5 (by kernel_rfl) hm0
  have zl : l.length ≤ 140737488351232 := by rw [ll]; exact sized_len hsz (j := 0) (t := 25) (e := 5) rfl rfl Tryd.underlying25 (of_decide_eq_true (by kernel_rfl))
  clear hA0 hval0
  have hL' := hL
  rw [MakeChecks.laidMetH_plain _ _ _ (by kernel_rfl)] at hL'
  have ht : Tab W := Lib.tabIs_of_head (g := 3) (by kernel_rfl) (by kernel_rfl) Tryd.underlying114 Tryd.underlying70 (by kernel_rfl) (by kernel_rfl) (laidMet.tail (laidMet.tail hL'))
  have hER : ErrR W := by
    obtain ⟨a0, s0, hv0, _, _, _⟩ := laid_sentinel (g := 1) (nm := "*errors.errorString") (laidMet.tail (laidMet.tail (laidMet.tail hL'))) (by kernel_rfl) (by kernel_rfl) Tryd.underlying82 (fun u hu => typeName_ptr_named (nm := "errors.errorString") (by rw [star]; kernel_rfl) (by kernel_rfl) (by decide) u (by rw [star]; exact hu)) Tryd.underlying104 Tryd.underlying106 rfl rfl Tryd.underlying9 (by kernel_rfl) (by kernel_rfl)
    exact ⟨_, _, hv0⟩
  refine (walk l _ W zl hl hER).mono fun e W' ⟨he, bel⟩ => ?_
  subst he
  exact ⟨_, rfl, _, _, _, [], _, [], hW', trodAll_mk1 (shut_bool Tryd.underlying4 _), (trodAll_cons_mk (Below.trod laidOut (by kernel_rfl) (of_decide_eq_true (by kernel_rfl)) k0 bel lt0) trodAll_mk0), rfl, bel.frame _, fun h => by cases h⟩

theorem over : Rows.valueReadsRow.holds Tryd.pinned (OpenSpec.ofChange Rows.valueReadsSpec) :=
  OpenClaim.holds_of_wide 4 Tryd.f4 rfl rfl rfl rfl rfl rfl rfl ⟨rfl, rfl, rfl, rfl, rfl⟩ rfl rfl rfl rfl rfl (by kernel_rfl) Tryd.func4 (by kernel_rfl)
    (of_decide_eq_true (by kernel_rfl)) (by unfold Func.isWrapper; first | (rw [if_pos (by decide +kernel)]; kernel_rfl) | (rw [if_neg (by decide +kernel)]; exact ⟨rfl, rfl⟩))
    (fun os started H enc _ => lifted os started H enc)

theorem valueReads_holds : Rows.ValueReadsSaid := over
theorem valueReads_card : Rows.ValueReadsCardSaid :=
  Claim7.holds_tied_plain_at .later [] [.data, .data, .data, .sentinel, .sentinel] true (true, "ee43a1431c45aa09a1e8c10d80ee091974414cffea27ff94de9698a802257ea7") true
    over (fun _ h => by cases h) (by kernel_rfl) (fun _ h => by cases h) valueReads_row_tie rfl ⟨rfl, rfl⟩ (by kernel_rfl) rfl
    (fun f fn hf hfn => by
      obtain rfl : f = 4 := Option.some.inj ((show Tryd.prog.funcNamed "rescind/rescindlaw05.ValueReads" = some 4 by kernel_rfl).symm.trans hf) |>.symm
      obtain rfl : fn = Tryd.f4 := (Option.some.inj (Tryd.func4.symm.trans hfn)).symm
      exact ⟨by kernel_rfl, fun j t ht => by
        rw [Tryd.params4] at ht
        have hm : t ∈ [25] := by simpa using Array.mem_of_getElem? ht
        have hall : ([25].all fun u => !Tryd.prog.wantsStandIn u) = true := by kernel_rfl
        exact (show Tryd.prog.wantsStandIn t = false by simpa using List.all_eq_true.1 hall t hm)⟩)
    (by kernel_rfl)
end Go.Proofs.YtgjdgejljkhnlabDoor.valueReads
