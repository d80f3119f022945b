/-
  Layer 8 (msg), 8.2: for every bytes, which are read as messages, one after another, and what is wrong with others, is what the document says. Tied to the tables of the library; no other condition.
-/
import Derived.Test.YtpfcmlmljolplabDoorMsgL
import Derived.Test.YtpfcmlmljolplabDoorMsgB
import Derived.Test.YtpfcmlmljolplabDoorArgM
import Derived.Test.YtpfcmlmljolplabDoorReg
import Derived.Test.YtpfcmlmljolplabDoorReg2
import Derived.Test.YtpfcmlmljolplabDoorReg3
import Derived.Test.YtpfcmlmljolplabDoorArg
import Derived.Test.YtpfcmlmljolplabDoorMsgE
import Derived.WalkKit
import Derived.ProofKit
import Derived.OpenShut
import Derived.ShutString
import Derived.ChangeOld
import Derived.Below
import Derived.Lib.SmallJoins
import Derived.Test.YtpfcmlmljolplabDoorTie
import Derived.Test.YtpfcmlmljolplabDoorCards
import Derived.LaidMore
import Derived.Stop.Joined
import Derived.SevenTiedAt
import Derived.Lib.LaidTab
import Derived.Stop.LaidErr
set_option linter.unusedVariables false
set_option linter.unusedSimpArgs false
namespace Go.Proofs.YtpfcmlmljolplabDoor.msgReads
open Go.ChangeShapes Go.WideShapes Go.ChangeAt Go.RowKit Go.Joins
open Go.ChangeMaps (open_string shut_string)
attribute [local go_sem] GW.cell GW.frozen In.eq_true In.le_true In.ne In.ne' In.ne_add In.ne_add' In.lt_add Upto.le_true Upto.le_add Upto.lt_add
theorem same_self (k i f t : Int) (l : List Vl) : msame k i f t l k i f t l = true := by simp [msame]
set_option maxHeartbeats 8000000 in
set_option maxRecDepth 100000 in
theorem walk (l : List UInt8) (va : Value) (w : World) (hll : l.length ≤ 140737488351232) (hv : By w [] va l) (ht : Tab w) : Calls Tryd.prog 6 #[va] w fun e w' => e = .returned (.bool true) ∧ Ext w w' := by
  obtain ⟨A, cap0, rfl, _⟩ := id hv
  have hlm : l.length ≤ 9223372036854775806 := by omega
  replace hv := hide hv
  have hlv := hide (fun w h => msgLive_c w h)
  have htb := hide ht
  clear ht
  go_enter Tryd.func6, Tryd.ntmps6
  go_wp2_with (first | (go_at_call 21; refine (newReader_c [] _ l hll _ hv.out (by simp)).mono ?_; rintro ee w1 ⟨b, rfl, hb, hR1, hX1⟩; have hlit := World.ownsRow_lit (base := w1.heap.size) (e := 5) (size := 1) w1 #[] 0 (Nat.le_refl _) (by decide) rfl) | (at_builtin; refine wpl_app tBytes rfl (.tmp 12) (.tmp 13) rfl rfl hlit rfl (src_sl Tryd.underlying36 (Sl.ext hv.out (hX1.alloc _)) (bs_one _) (by omega)) (by unfold maxLen; omega) (by omega) (by simp) ?_; intro v2 w2 hp2 hg2 _; replace hp2 := own_app (l := []) hp2; rw [List.nil_append] at hp2; obtain ⟨A2, c2, rfl⟩ := own_form hp2))
  have hz1 := hX1.size
  have hX2 := ext_grown (hX1.alloc (.cells #[] 5)) hg2 (fun k hk => by have := (hlit.lt k hk).1; omega)
  have hE2 : Ext w1 w2 := ext_grown ((Ext.refl w1).alloc (.cells #[] 5)) hg2 (fun k hk => (hlit.lt k hk).1)
  have hz2 := hE2.size
  have hbl : b < w1.heap.size := hR1.blt
  have hcb : w2.heap.size ≠ b := by omega
  have hbS : w.heap.size ≤ b ∧ w.heap.size ≤ w2.heap.size := by omega
  have hR3 : Rdr (w2.alloc (.cells #[.slice A2 l.length c2, .int .i64 0] 47)) [w2.heap.size, b] b (l, 0) :=
    rdr_ext ((rdr_ext hR1 hE2).more (by intro x hx; simp at hx; rcases hx with rfl | rfl <;> simp) (by simp)) ((Ext.refl w2).alloc _)
  have hQ3 : Qdr (w2.alloc (.cells #[.slice A2 l.length c2, .int .i64 0] 47)) [w2.heap.size, b] w2.heap.size (l, 0) :=
    ⟨by simp, by simp, _, Ob.new w2 _ [_, .int .i64 0], (Sl.own (S := [b]) hp2 (by intro x hx; simp at hx; subst hx; exact hbl) |>.new (S' := [w2.heap.size, b]) (fun x hx => by simp at hx; rcases hx with rfl | rfl <;> simp)).alloc _⟩
  have hX3 := hX2.alloc (.cells #[.slice A2 l.length c2, .int .i64 0] 47)
  clear hp2 hg2 hlit hE2 hz2 hX2 hR1
  generalize hc : w2.heap.size = c at *
  generalize (w2.alloc (.cells #[.slice A2 l.length c2, .int .i64 0] 47)) = w3 at *
  clear hc hv hz1 hbl hX1
  go_loopw [5] (fun i wr => ∃ (k : Nat) (st : List UInt8), i = .int .i64 k ∧ k ≤ l.length + 1 ∧ Rdr wr [c, b] b (st, 0) ∧ Qdr wr [c, b] c (st, 0) ∧ Ext w wr) (fun i _ => l.length + 1 - (intOf i).toNat)
  case atStart => exact ⟨0, l, rfl, Nat.zero_le _, hR3, hQ3, hX3⟩
  case round =>
    obtain ⟨k, st, rfl, hk, hR, hQ, hX⟩ := hrel
    by_cases hkl : k ≤ l.length
    · have hkI : (k : Int) ≤ (l.length : Int) := by omega
      obtain ⟨V, hVl⟩ : ∃ V, mrV st = V := ⟨_, rfl⟩
      obtain ⟨x, hXe⟩ : ∃ x, mrE st = x := ⟨_, rfl⟩
      obtain ⟨l2, hSt⟩ : ∃ p, mrS st = p := ⟨_, rfl⟩
      obtain ⟨⟨K, I, F0, T0⟩, hMl⟩ : ∃ p, mrM st = p := ⟨_, rfl⟩
      have hrd : Hid (∀ w', Rdr w' [c, b] b (st, 0) → Calls Tryd.prog 22 #[.pointer (some ⟨b, 0, none⟩)] w' fun z w'' => ∃ v' st', z = .returned (.tuple #[mg K I F0 T0 v', .int .i64 x]) ∧ OwnR w'' w'.heap.size v' V ∧ Rdr w'' [c, b] b st' ∧ (x = 0 → st' = (l2, 0)) ∧ Fr [b] w' w'') := hide (by
        intro w' h; have := mread_c [c, b] b st w' h; unfold mrT at this; rw [hVl, hXe, hSt, hMl] at this; exact this)
      have hqd : Hid (∀ w', Qdr w' [c, b] c (st, 0) → Calls Tryd.prog 24 #[.pointer (some ⟨c, 0, none⟩)] w' fun z w'' => ∃ v' st', z = .returned (.tuple #[mg K I F0 T0 v', .int .i64 x]) ∧ OwnR w'' w'.heap.size v' V ∧ Qdr w'' [c, b] c st' ∧ (x = 0 → st' = (l2, 0)) ∧ Fr [c] w' w'') := hide (by
        intro w' h; have := dread_c [c, b] c st w' h; unfold mrT at this; rw [hVl, hXe, hSt, hMl] at this; exact this)
      have hck := mr_chk st
      rw [hXe, hMl, hVl] at hck
      have hck' : Hid (x = 0 → mchk K I F0 T0 V = 0) := hide hck
      have hbl' : b < wr.heap.size := hR.blt
      have hcl' : c < wr.heap.size := hQ.blt
      clear hR3 hQ3 hX3 hVl hXe hSt hMl hck
      by_cases h0 : x = 0
      · subst h0
        have hmk := hide (hck'.out rfl)
        go_wp2_with (first | (go_at_call 22; refine (hrd.out _ hR).mono ?_; rintro ee w4 ⟨v4, st4, rfl, o4, hR1, hst4, hF1⟩; obtain ⟨A4, c4, rfl⟩ := own_form o4; have a0 := hbl'; have a1 := hF1.size; have hQ1 := hide (qdr_ext (hQ.fr hF1 (by simpa using hcb) (by simp)) ((Ext.refl w4).alloc (.cells #[.int .i64 K, .int .i64 I, .int .i64 F0, .int .i64 T0, .slice A4 V.length c4] 26))); replace hR1 := hide hR1; have N4 := hide (Ob.new w4 26 [.int .i64 K, .int .i64 I, .int .i64 F0, .int .i64 T0, .slice A4 V.length c4])) | (go_at_call 24; refine (hqd.out _ hQ1.out).mono ?_; rintro ee w5 ⟨v5, st5, rfl, o5, hQ2, hst5, hF2⟩; obtain ⟨A5, c5, rfl⟩ := own_form o5; have hR2 := (rdr_ext hR1.out ((Ext.refl w4).alloc (.cells #[.int .i64 K, .int .i64 I, .int .i64 F0, .int .i64 T0, .slice A4 V.length c4] 26))).fr hF2 (by simpa using Ne.symm hcb) (by simp); have a2 := hF2.size; simp only [World.size_alloc] at a2; have hne4 : w4.heap.size ≠ c := (by omega); have O4 := N4.out.fr hF2 (by simp; omega); have m0 := O4.cell 0 rfl; have m1 := O4.cell 1 rfl; have m2 := O4.cell 2 rfl; have m3 := O4.cell 3 rfl; have m4 := O4.cell 4 rfl; have hl4 := O4.lt; haveI : In w4.heap.size w5 := ⟨hl4⟩; have o4' := own_fr (own_ext o4 ((Ext.refl w4).alloc (.cells #[.int .i64 K, .int .i64 I, .int .i64 F0, .int .i64 T0, .slice A4 V.length c4] 26))) hF2 (by simp; omega); have hY := (Ext.refl w5).alloc (.cells #[.int .i64 K, .int .i64 I, .int .i64 F0, .int .i64 T0, .slice A5 V.length c5] 26); have s4 := hide (Sl.ext (own_rw (S := []) o4' (by simp)) hY); have s5 := hide (Sl.ext (own_rw (S := []) o5 (by simp)) hY); have hXA := hide ((ext_fr ((ext_fr hX hF1 (by simp; omega)).alloc (.cells #[.int .i64 K, .int .i64 I, .int .i64 F0, .int .i64 T0, .slice A4 V.length c4] 26)) hF2 (by simp; omega)).alloc (.cells #[.int .i64 K, .int .i64 I, .int .i64 F0, .int .i64 T0, .slice A5 V.length c5] 26)); replace hQ2 := hide (qdr_ext hQ2 hY); replace hR2 := hide (rdr_ext hR2 hY); have hs4 := hide hst4; have hs5 := hide hst5; clear o4 o4' o5 hst4 hst5) | (go_at_call 13; (with_reducible refine seq_gw (refMsgSame_c K I F0 T0 V _ K I F0 T0 V _ _ s4.out s5.out) ?_); rw [same_self]; intro g6))
        obtain rfl := hs4.out (by trivial)
        obtain rfl := hs5.out (by trivial)
        obtain ⟨A', cap', j0, j1, j2, j3, j4⟩ := (qdr_ext hQ2.out g6.grown).lay
        have hltc := (qdr_ext hQ2.out g6.grown).blt
        haveI : In c g6.val := ⟨hltc⟩
        have hcc := hide (fun w' (hx : Ext g6.val w') => check_c K I F0 T0 V _ w' (Sl.ext s4.out (g6.grown.trans hx)))
        rw [hmk.out] at hcc
        refine wp_region_gw (by kernel_rfl) (by kernel_rfl) ?_
        repeat (go_big_quiet_step (first | (go_at_call 23; with_reducible exact quiet_gw ((left_c _ b _ _ _ (rdr_ext hR2.out (g6.grown.trans (GW.grown _)))).mono fun e w' h => ⟨h.1, h.2 ▸ Ext.refl _⟩)) | (go_at_call 8; with_reducible exact quiet_gw (hcc.out _ (GW.grown _)))))
        refine wpQuiet_nil ?_
        intro g
        go_wp2_with fail
        go_roundw
        case rel => exact ⟨k + 1, l2, by go_num, by omega, rdr_ext hR2.out (g6.grown.trans g.grown), qdr_ext hQ2.out (g6.grown.trans g.grown), hXA.out.trans (g6.grown.trans g.grown)⟩
        case measure => simp [intOf]; omega
      · replace h0 := hide h0
        have hx0 : (x != 0) = true := by simp [h0.out]
        go_wp2_with (first | (go_at_call 22; refine (hrd.out _ hR).mono ?_; rintro ee w4 ⟨v4, st4, rfl, o4, hR1, hst4, hF1⟩; obtain ⟨A4, c4, rfl⟩ := own_form o4; have a0 := hbl'; have a1 := hF1.size; have hQ1 := hide (qdr_ext (hQ.fr hF1 (by simpa using hcb) (by simp)) ((Ext.refl w4).alloc (.cells #[.int .i64 K, .int .i64 I, .int .i64 F0, .int .i64 T0, .slice A4 V.length c4] 26))); replace hR1 := hide hR1; have N4 := hide (Ob.new w4 26 [.int .i64 K, .int .i64 I, .int .i64 F0, .int .i64 T0, .slice A4 V.length c4])) | (go_at_call 24; refine (hqd.out _ hQ1.out).mono ?_; rintro ee w5 ⟨v5, st5, rfl, o5, hQ2, hst5, hF2⟩; obtain ⟨A5, c5, rfl⟩ := own_form o5; have hR2 := (rdr_ext hR1.out ((Ext.refl w4).alloc (.cells #[.int .i64 K, .int .i64 I, .int .i64 F0, .int .i64 T0, .slice A4 V.length c4] 26))).fr hF2 (by simpa using Ne.symm hcb) (by simp); have a2 := hF2.size; simp only [World.size_alloc] at a2; have hne4 : w4.heap.size ≠ c := (by omega); have O4 := N4.out.fr hF2 (by simp; omega); have m0 := O4.cell 0 rfl; have m1 := O4.cell 1 rfl; have m2 := O4.cell 2 rfl; have m3 := O4.cell 3 rfl; have m4 := O4.cell 4 rfl; have hl4 := O4.lt; haveI : In w4.heap.size w5 := ⟨hl4⟩; have o4' := own_fr (own_ext o4 ((Ext.refl w4).alloc (.cells #[.int .i64 K, .int .i64 I, .int .i64 F0, .int .i64 T0, .slice A4 V.length c4] 26))) hF2 (by simp; omega); have hY := (Ext.refl w5).alloc (.cells #[.int .i64 K, .int .i64 I, .int .i64 F0, .int .i64 T0, .slice A5 V.length c5] 26); have s4 := hide (Sl.ext (own_rw (S := []) o4' (by simp)) hY); have s5 := hide (Sl.ext (own_rw (S := []) o5 (by simp)) hY); have hXA := hide ((ext_fr ((ext_fr hX hF1 (by simp; omega)).alloc (.cells #[.int .i64 K, .int .i64 I, .int .i64 F0, .int .i64 T0, .slice A4 V.length c4] 26)) hF2 (by simp; omega)).alloc (.cells #[.int .i64 K, .int .i64 I, .int .i64 F0, .int .i64 T0, .slice A5 V.length c5] 26)); replace hQ2 := hide (qdr_ext hQ2 hY); replace hR2 := hide (rdr_ext hR2 hY); have hs4 := hide hst4; have hs5 := hide hst5; clear o4 o4' o5 hst4 hst5) | (go_at_call 13; (with_reducible refine seq_gw (refMsgSame_c K I F0 T0 V _ K I F0 T0 V _ _ s4.out s5.out) ?_); rw [same_self]; intro g6) | (go_at_call 7; (with_reducible refine seq_gw' (hlv.out _ (htb.out.ext (hXA.out.trans g6.grown))) ?_); intro g7))
        go_returns
        exact ⟨rfl, hXA.out.trans g7.grown⟩
    · have hkI : ¬ (k : Int) ≤ (l.length : Int) := by omega
      go_wp2_with (go_at_call 7; (with_reducible refine seq_gw (hlv.out _ (htb.out.ext hX)) ?_); intro g7)
      go_returns
      exact ⟨rfl, hX.trans g7.grown⟩

theorem own : ownKnob Tryd.prog.godebug = none := by kernel_rfl
theorem laidOut : laidOutB Tryd.prog = true := by kernel_rfl
/-- The variables that the row lists. -/
def laidL : List (String × DataW Unit) := [("math/bits.deBruijn32tab", Rows.laid_math_bits_deBruijn32tab), ("math/bits.deBruijn64tab", Rows.laid_math_bits_deBruijn64tab), ("internal/strconv.uint64pow10", Rows.laid_internal_strconv_uint64pow10)]
theorem door_met (os : Os) (args : Array Value) : laidMetH Tryd.prog laidL ((World.doorLaid Tryd.prog 24 os).forCall (fun _ _ => 0) ⟨#[], args, []⟩).memory :=
  laidMetH_of_parts3 (fuel := 8) (laidMet_of_run' 8 (by kernel_rfl) (by kernel_rfl)) (by kernel_rfl) (by kernel_rfl)
set_option maxRecDepth 100000 in
theorem lifted (os : Os) (started : os.Started) (H : Type) (enc : TypeId × Value → H) :
    ReturnsInHanded {} Tryd.checked os 6 .any (fun w args => (Rows.msgReadsSpec.pre enc Tryd.prog Tryd.f6 [] false w args ∧ laidMetH Tryd.prog laidL w) ∧ sizedMet enc Tryd.prog Tryd.f6 (OpenSpec.ofChange Rows.msgReadsSpec) false w args) (Rows.msgReadsSpec.post enc Tryd.prog Tryd.f6 false true false false) := by
  refine returnsInHanded_of_change_and (C := Tryd.checked) (X := fun w _ => laidMetH Tryd.prog laidL w) (fun _ _ _ hh h => h.of_heap hh) own started (by kernel_rfl) Tryd.func6
    (ChangeSpec.witness_shaped (enc := enc) (C := Tryd.checked) (os := os) (X := fun w _ => laidMetH Tryd.prog laidL w) false (World.doorLaid Tryd.prog 24 os) #[.slice none 0 0] 8 rfl (World.shaped_of_RefB (by kernel_rfl) (by kernel_rfl)) (by kernel_rfl) (by kernel_rfl) (by kernel_rfl) (door_met os _)) ?_
  intro W base args ds gs before hval0 hW _ hsz0 hL _
  have hsz : (DataW.weightsEach Tryd.prog (Tryd.f6.params.toList ++ Rows.msgReadsSpec.plain.varTypes Tryd.prog) (ds ++ gs)).all (· ≤ reachBytes) = true := hsz0
  clear hsz0
  have hval : ∀ (j : Nat) t v, Tryd.f6.params[j]? = some t → args[j]? = some v → Value.okWide Tryd.prog W .any base t v := hval0
  have hW' := hW
  obtain ⟨p, q, hA0, hV, rfl, hfz, hnd⟩ := hW
  have hA : DataW.TrodAll enc Tryd.prog W 0 (fun _ => true) true Tryd.f6.params.toList args.toList ds p := hA0
  rw [Tryd.params6] at hA hval hsz
  obtain ⟨v0, vs0, d0, ds0, p0, q0, hargs, rfl, rfl, h0, r0⟩ := trodAll_cons hA
  obtain ⟨rfl, rfl, rfl⟩ := trodAll_nil r0
  obtain rfl : args = #[v0] := by cases args; simp_all
  obtain ⟨rfl, rfl⟩ := trodVars_none hV
  have k0 := h0
  have lt0 : ∀ x ∈ p0, x.block < W.heap.size := by obtain ⟨m, hm⟩ := k0; exact DataW.trod_lt m _ _ _ hm
  obtain ⟨A0, n0, c0, rfl⟩ := okWide_slice Tryd.underlying36 (hval 0 36 v0 rfl rfl)
  have ⟨m0, hm0⟩ := h0
  obtain ⟨l, ll, hl⟩ := open_bytes Tryd.underlying36 Tryd.underlying5 (by kernel_rfl) hm0
  have zl : l.length ≤ 140737488351232 := by rw [ll]; exact sized_len hsz (j := 0) (t := 36) (e := 5) rfl rfl Tryd.underlying36 (of_decide_eq_true (by kernel_rfl))
  clear hA0 hval0
  have hL' := hL
  rw [MakeChecks.laidMetH_plain _ _ _ (by kernel_rfl)] at hL'
  have ht : Tab W := Lib.tabIs_of_head (g := 1) (by kernel_rfl) (by kernel_rfl) Tryd.underlying129 Tryd.underlying82 (by kernel_rfl) (by kernel_rfl) (laidMet.tail (laidMet.tail hL'))
  refine (walk l _ W zl hl ht).mono fun e W' ⟨he, bel⟩ => ?_
  subst he
  exact ⟨_, rfl, _, _, _, [], _, [], hW', trodAll_mk1 (shut_bool Tryd.underlying4 _), (trodAll_cons_mk (Below.trod laidOut (by kernel_rfl) (of_decide_eq_true (by kernel_rfl)) k0 bel lt0) trodAll_mk0), rfl, bel.frame _, fun h => by cases h⟩

theorem over : Rows.msgReadsRow.holds Tryd.pinned (OpenSpec.ofChange Rows.msgReadsSpec) :=
  OpenClaim.holds_of_wide 6 Tryd.f6 rfl rfl rfl rfl rfl rfl rfl ⟨rfl, rfl, rfl, rfl, rfl⟩ rfl rfl rfl rfl rfl (by kernel_rfl) Tryd.func6 (by kernel_rfl)
    (of_decide_eq_true (by kernel_rfl)) (by unfold Func.isWrapper; first | (rw [if_pos (by decide +kernel)]; kernel_rfl) | (rw [if_neg (by decide +kernel)]; exact ⟨rfl, rfl⟩))
    (fun os started H enc _ => lifted os started H enc)

theorem msgReads_holds : Rows.MsgReadsSaid := over
theorem msgReads_card : Rows.MsgReadsCardSaid :=
  Claim7.holds_tied_plain_at .later [] [.data, .data, .data] true (true, "3a84535d0f060867b75cf113146c03c7ffb60d80c82f5b61757ee22490c00891") false
    over (fun _ h => by cases h) (by kernel_rfl) (fun _ h => by cases h) msgReads_row_tie rfl ⟨rfl, rfl⟩ (by kernel_rfl) rfl
    (fun f fn hf hfn => by
      obtain rfl : f = 6 := Option.some.inj ((show Tryd.prog.funcNamed "rescind/rescindlaw08.MsgReads" = some 6 by kernel_rfl).symm.trans hf) |>.symm
      obtain rfl : fn = Tryd.f6 := (Option.some.inj (Tryd.func6.symm.trans hfn)).symm
      exact ⟨by kernel_rfl, fun j t ht => by
        rw [Tryd.params6] at ht
        have hm : t ∈ [36] := by simpa using Array.mem_of_getElem? ht
        have hall : ([36].all fun u => !Tryd.prog.wantsStandIn u) = true := by kernel_rfl
        exact (show Tryd.prog.wantsStandIn t = false by simpa using List.all_eq_true.1 hall t hm)⟩)
    (by kernel_rfl)
end Go.Proofs.YtpfcmlmljolplabDoor.msgReads
