/-
  Layer 5 (value), 5.2, 5.5: for every value, and bytes behind it, its bytes are those that the document says; they are read as it, and what stands behind them is left. Tied to the tables of the library and its error of size; no other condition.
-/
import Derived.Test.YtgjdgejljkhnlabDoorValE
import Derived.Test.YtgjdgejljkhnlabDoorValQ
import Derived.Test.YtgjdgejljkhnlabDoorValX
import Derived.Test.YtgjdgejljkhnlabDoorReg
import Derived.Test.YtgjdgejljkhnlabDoorArg
import Derived.WalkKit
import Derived.ProofKit
import Derived.OpenShut
import Derived.ShutString
import Derived.ChangeOld
import Derived.Below
import Derived.Lib.SmallJoins
import Derived.Test.YtgjdgejljkhnlabDoorTie
import Derived.Test.YtgjdgejljkhnlabDoorCards
import Derived.LaidMore
import Derived.Stop.Joined
import Derived.SevenTiedAt
import Derived.Lib.LaidTab
import Derived.Stop.LaidErr
set_option linter.unusedVariables false
set_option linter.unusedSimpArgs false
namespace Go.Proofs.YtgjdgejljkhnlabDoor.valueBytes
open Go.ChangeShapes Go.WideShapes Go.ChangeAt Go.RowKit Go.Joins
open Go.ChangeMaps (open_string shut_string)
attribute [local go_sem] GW.cell GW.frozen In.eq_true In.le_true In.ne In.ne' In.ne_add In.ne_add' In.lt_add Upto.le_true Upto.le_add Upto.lt_add
theorem star : "*" ++ "errors.errorString" = "*errors.errorString" := by decide
set_option maxHeartbeats 4000000 in
set_option maxRecDepth 100000 in
theorem walk (k n : Int) (s : ByteArray) (l : List UInt8) (va : Value) (w : World) (hn : -9223372036854775808 ≤ n ∧ n ≤ 9223372036854775807) (hl : l.length ≤ 140737488351232) (hv : By w [] va l) (hE : ErrR w) : Calls Tryd.prog 3 #[val k n s, va] w fun e w' => e = .returned (.bool true) ∧ Ext w w' := by
  obtain ⟨A, cap, rfl, hlc, hcm, -⟩ := id hv
  unfold maxLen at hcm
  replace hv := hide hv
  replace hE := hide hE
  cases hm : mayB k n s
  · have hmy := hide (fun w => may_c k n s w)
    rw [hm] at hmy
    have hwb := hide (fun w => vbytes_c k n s hn w)
    have hrb := hide (fun w => vrefBytes_c k n s hn w)
    have hlv := hide (fun w h => live_c w h)
    rw [valB_no hm] at hwb hrb
    have O0 := hide (Ob.new w 24 [.int .i64 k, .int .i64 n, .string s])
    clear hm hn
    obtain ⟨B, hBe⟩ : ∃ B : List UInt8, B = [] := ⟨_, rfl⟩
    rw [← hBe] at hwb hrb
    replace hBe := hide hBe
    go_enter Tryd.func3, Tryd.ntmps3
    go_wp2_with (go_at_call 7; refine (hwb.out _).mono ?_; rintro ee w1 ⟨v1, rfl, ho1, hx1⟩; obtain ⟨g1, rfl⟩ : ∃ g1 : GW (w.alloc (.cells #[.int .i64 k, .int .i64 n, .string s] 24)), w1 = g1.val := ⟨⟨_, hx1⟩, rfl⟩; obtain ⟨A1, c1, rfl⟩ := own_form ho1)
    have hst : ∀ w', Ext g1.val w' → (convert 25 9 (.slice A1 B.length c1)).run Tryd.prog w' = .ok (.string ⟨B.toArray⟩) w' := fun w' hx => run_str Tryd.underlying25 Tryd.underlying5 Tryd.underlying9 (Sl.ext (Sl.own (S := []) ho1 (by simp)) hx)
    refine wp_region_list [.is (.slice A1 B.length c1), .is (.string ⟨B.toArray⟩), .is (val k n s), .bytes B, .is (.string ⟨B.toArray⟩), .is (.bool false)] (by kernel_rfl) (by kernel_rfl) (by kernel_rfl) ?_ ?_
    · refine ⟨?_, ?_, ?_, ?_, ?_, ?_, trivial⟩
      · intro b w' h
        have f5 : b.tmps.getD 5 undef = .slice A1 B.length c1 := h.else_ 5 (of_decide_eq_true (by kernel_rfl))
        exact good_move (wanted_none rfl) rfl f5
      · intro b w' h
        have f11 : b.tmps.getD 11 undef = .slice A1 B.length c1 := h.dep 0 _ 11 (by kernel_rfl) rfl rfl
        exact good_convert (wanted_none rfl) rfl (by rw [show b.eval (.tmp 11) = .slice A1 B.length c1 from f11]; exact hst _ h.ext) rfl
      · intro b w' h
        have f2 : b.tmps.getD 2 undef = .pointer (some ⟨w.heap.size, 0, none⟩) := h.else_ 2 (of_decide_eq_true (by kernel_rfl))
        have O1 := (O0.out.ext g1.grown).ext h.ext
        have k0 := O1.cell 0 rfl
        have k1 := O1.cell 1 rfl
        have k2 := O1.cell 2 rfl
        exact good_load (wanted_none rfl) rfl f2 (by simp [go_sem, k0, k1, k2]) rfl
      · intro b w' h
        have f13 : b.tmps.getD 13 undef = val k n s := h.dep 2 _ 13 (by kernel_rfl) rfl rfl
        refine good_call (wanted_none rfl) rfl (enters Tryd.func8 (by kernel_rfl) rfl) ?_
        rw [show (#[.tmp 13] : Array Operand).map b.eval = #[val k n s] by simp [Act.eval, f13]]
        exact (hrb.out _).mono fun e w1 ⟨v, he, ho, hx⟩ => ⟨v, he, Sl.own ho (by simp), hx⟩
      · intro b w' h
        have f14 := h.dep 3 _ 14 (by kernel_rfl) rfl rfl
        exact good_convert (wanted_none rfl) rfl (run_str Tryd.underlying25 Tryd.underlying5 Tryd.underlying9 f14) rfl
      · intro b w' h
        have f12 : b.tmps.getD 12 undef = .string ⟨B.toArray⟩ := h.dep 1 _ 12 (by kernel_rfl) rfl rfl
        have f15 : b.tmps.getD 15 undef = .string ⟨B.toArray⟩ := h.dep 4 _ 15 (by kernel_rfl) rfl rfl
        exact good_bin (wanted_none rfl) rfl f12 f15 (guard_str _) (run_neq_str Tryd.underlying9 _ _) rfl
    · intro b w2 hX2 hd hz he' hf
      have f16 : b.tmps.getD 16 undef = .bool false := hf 5 _ 16 rfl rfl
      have e := frame_puts hd hz he'
      obtain ⟨x, hx⟩ : ∃ x : Nat → Value, ∀ d, b.tmps.getD d undef = x d := ⟨_, fun _ => rfl⟩
      rw [show dstsOf _ = [11, 12, 13, 14, 15, 16] from rfl] at e
      simp only [List.foldl_cons, List.foldl_nil, hx, Act.put, List.setIfInBounds_toArray, List.set_cons_succ, List.set_cons_zero] at e f16
      rw [f16] at e
      clear hf he' hz hd hx f16
      subst e
      obtain ⟨g2, rfl⟩ : ∃ g2 : GW g1.val, w2 = g2.val := ⟨⟨_, hX2⟩, rfl⟩
      have hE2 := hide (errR_ext hE.out (((Ext.refl w).alloc (.cells #[.int .i64 k, .int .i64 n, .string s] 24)).trans g1.grown))
      rw [show B.length = 0 by rw [hBe.out]; rfl]
      go_wp2_with (first | (go_at_call 9; with_reducible refine seq_gw' (hmy.out _) ?_; intro g3) | (go_at_call 10; with_reducible refine seq_gw' (hlv.out _ (errR_ext hE2.out (GW.grown _))) ?_; intro g4))
      go_returns
      exact ⟨rfl, (((Ext.refl w).alloc _).trans g1.grown).trans g4.grown⟩

  · have hmy := hide (fun w => may_c k n s w)
    rw [hm] at hmy
    have hwb := hide (fun w => vbytes_c k n s hn w)
    have hrb := hide (fun w => vrefBytes_c k n s hn w)
    have hlv := hide (fun w h => live_c w h)
    have hbk := hide (val_back (s := s) hn hm l)
    have hq := eq_same k n s
    have hBl : Hid ((valB (k, n, s)).length ≤ 75) := valB_len hn
    have O0 := hide (Ob.new w 24 [.int .i64 k, .int .i64 n, .string s])
    clear hm hn
    generalize valB (k, n, s) = B at hwb hrb hbk hBl
    go_enter Tryd.func3, Tryd.ntmps3
    go_wp2_with (go_at_call 7; refine (hwb.out _).mono ?_; rintro ee w1 ⟨v1, rfl, ho1, hx1⟩; obtain ⟨g1, rfl⟩ : ∃ g1 : GW (w.alloc (.cells #[.int .i64 k, .int .i64 n, .string s] 24)), w1 = g1.val := ⟨⟨_, hx1⟩, rfl⟩; obtain ⟨A1, c1, rfl⟩ := own_form ho1)
    have hst : ∀ w', Ext g1.val w' → (convert 25 9 (.slice A1 B.length c1)).run Tryd.prog w' = .ok (.string ⟨B.toArray⟩) w' := fun w' hx => run_str Tryd.underlying25 Tryd.underlying5 Tryd.underlying9 (Sl.ext (Sl.own (S := []) ho1 (by simp)) hx)
    refine wp_region_list [.is (.slice A1 B.length c1), .is (.string ⟨B.toArray⟩), .is (val k n s), .bytes B, .is (.string ⟨B.toArray⟩), .is (.bool false)] (by kernel_rfl) (by kernel_rfl) (by kernel_rfl) ?_ ?_
    · refine ⟨?_, ?_, ?_, ?_, ?_, ?_, trivial⟩
      · intro b w' h
        have f5 : b.tmps.getD 5 undef = .slice A1 B.length c1 := h.else_ 5 (of_decide_eq_true (by kernel_rfl))
        exact good_move (wanted_none rfl) rfl f5
      · intro b w' h
        have f11 : b.tmps.getD 11 undef = .slice A1 B.length c1 := h.dep 0 _ 11 (by kernel_rfl) rfl rfl
        exact good_convert (wanted_none rfl) rfl (by rw [show b.eval (.tmp 11) = .slice A1 B.length c1 from f11]; exact hst _ h.ext) rfl
      · intro b w' h
        have f2 : b.tmps.getD 2 undef = .pointer (some ⟨w.heap.size, 0, none⟩) := h.else_ 2 (of_decide_eq_true (by kernel_rfl))
        have O1 := (O0.out.ext g1.grown).ext h.ext
        have k0 := O1.cell 0 rfl
        have k1 := O1.cell 1 rfl
        have k2 := O1.cell 2 rfl
        exact good_load (wanted_none rfl) rfl f2 (by simp [go_sem, k0, k1, k2]) rfl
      · intro b w' h
        have f13 : b.tmps.getD 13 undef = val k n s := h.dep 2 _ 13 (by kernel_rfl) rfl rfl
        refine good_call (wanted_none rfl) rfl (enters Tryd.func8 (by kernel_rfl) rfl) ?_
        rw [show (#[.tmp 13] : Array Operand).map b.eval = #[val k n s] by simp [Act.eval, f13]]
        exact (hrb.out _).mono fun e w1 ⟨v, he, ho, hx⟩ => ⟨v, he, Sl.own ho (by simp), hx⟩
      · intro b w' h
        have f14 := h.dep 3 _ 14 (by kernel_rfl) rfl rfl
        exact good_convert (wanted_none rfl) rfl (run_str Tryd.underlying25 Tryd.underlying5 Tryd.underlying9 f14) rfl
      · intro b w' h
        have f12 : b.tmps.getD 12 undef = .string ⟨B.toArray⟩ := h.dep 1 _ 12 (by kernel_rfl) rfl rfl
        have f15 : b.tmps.getD 15 undef = .string ⟨B.toArray⟩ := h.dep 4 _ 15 (by kernel_rfl) rfl rfl
        exact good_bin (wanted_none rfl) rfl f12 f15 (guard_str _) (run_neq_str Tryd.underlying9 _ _) rfl
    · intro b w2 hX2 hd hz he' hf
      have f16 : b.tmps.getD 16 undef = .bool false := hf 5 _ 16 rfl rfl
      have e := frame_puts hd hz he'
      obtain ⟨x, hx⟩ : ∃ x : Nat → Value, ∀ d, b.tmps.getD d undef = x d := ⟨_, fun _ => rfl⟩
      rw [show dstsOf _ = [11, 12, 13, 14, 15, 16] from rfl] at e
      simp only [List.foldl_cons, List.foldl_nil, hx, Act.put, List.setIfInBounds_toArray, List.set_cons_succ, List.set_cons_zero] at e f16
      rw [f16] at e
      clear hf he' hz hd hx f16
      subst e
      obtain ⟨g2, rfl⟩ : ∃ g2 : GW g1.val, w2 = g2.val := ⟨⟨_, hX2⟩, rfl⟩
      have hE2 := hide (errR_ext hE.out (((Ext.refl w).alloc (.cells #[.int .i64 k, .int .i64 n, .string s] 24)).trans g1.grown))
      have hv2 := hide (Sl.ext hv.out ((((Ext.refl w).alloc (.cells #[.int .i64 k, .int .i64 n, .string s] 24)).trans g1.grown)))
      have hBl' := hBl.out
      go_wp2_with (first | (go_at_call 9; with_reducible refine seq_gw' (hmy.out _) ?_; intro g3; have hlit := hide (World.ownsRow_made (base := g3.val.heap.size) (e := 5) (size := 1) g3.val #[] 0 (Nat.le_refl _) (Nat.zero_le _) rfl); have hB3 := hide (Sl.ext (Sl.own (S := []) ho1 (by simp)) (g3.grown.alloc (.cells #[] 5))); have hG3 := hide (((((Ext.refl w).alloc (.cells #[.int .i64 k, .int .i64 n, .string s] 24)).trans g1.grown)).trans g3.grown)) | (at_builtin; (refine wpl_app tBytes rfl (.tmp 26) (.tmp 27) rfl rfl hlit.out rfl (src_sl Tryd.underlying25 hB3.out (bs_one _) (by omega)) (by unfold maxLen; omega) (by omega) (by simp) ?_; intro v4 w4 ho4 hg4 _; replace ho4 := own_app (l := []) ho4; rw [List.nil_append] at ho4; have hX4 := hide (ext_grown ((Ext.refl g3.val).alloc _) hg4 (fun k hk => (hlit.out.lt k hk).1)); have hz4 := hX4.out.size; have hv4 := hide (Sl.ext hv.out (hG3.out.trans hX4.out)))) | (at_builtin; (refine wpl_app tBytes rfl (.tmp 28) (.tmp 29) rfl rfl ho4 rfl (src_sl Tryd.underlying25 hv4.out (bs_one _) (by omega)) (by unfold maxLen; omega) (by omega) hz4 ?_; intro v5 w5 ho5 hg5 _; replace ho5 := own_app ho5; have hX5 := hide (ext_grown hX4.out hg5 (fun k hk => (ho4.lt k hk).1)))) | (go_at_call 11; (refine (newReader_c' [] _ (B ++ l) (by rw [List.length_append]; omega) _ (Sl.own (S := []) ho5 (by simp)) (by simp)).mono ?_; rintro ee w6 ⟨b, rfl, hb, hR6, hX6⟩; have hG6 := hide ((hG3.out.trans hX5.out).trans hX6))) | (go_at_call 12; (refine (vread_c _ b _ _ hR6).mono ?_; rintro ee w7 ⟨rfl, hR7, hF7⟩; rw [hbk.out.1, hbk.out.2.1, show vl (k, n, s) = val k n s from rfl]; rw [hbk.out.2.2] at hR7; have a1 := O0.out.lt; have a2 := g1.grown.size; have a3 := g3.grown.size; have a4 := hX5.out.size; have hG7 := hide (ext_fr hG6.out hF7 (by intro y hy; simp at hy; subst hy; omega)); have hne : b ≠ w.heap.size := (by omega); have O7 := ((O0.out.ext (g1.grown.trans (g3.grown.trans (hX5.out.trans hX6)))).fr hF7 (by simp; omega)); have k0 := O7.cell 0 rfl; have k1 := O7.cell 1 rfl; have k2 := O7.cell 2 rfl; have hlt7 := O7.lt; haveI : In w.heap.size w7 := ⟨hlt7⟩; replace hR7 := hide hR7)) | (go_at_call 10; (refine seq_gw (hlv.out _ (errR_ext hE.out (hG7.out.alloc _))) ?_; intro g8)) | (go_at_call 13; (refine (left_c _ b _ _ _ (rdr_ext hR7.out (((Ext.refl _).alloc _).trans g8.grown))).mono ?_; rintro ee w9 ⟨rfl, rfl⟩)))
      go_returns
      exact ⟨rfl, (hG7.out.alloc _).trans g8.grown⟩


theorem own : ownKnob Tryd.prog.godebug = none := by kernel_rfl
theorem laidOut : laidOutB Tryd.prog = true := by kernel_rfl
/-- The variables that the row lists. -/
def laidL : List (String × DataW Unit) := [("math/bits.deBruijn32tab", Rows.laid_math_bits_deBruijn32tab), ("math/bits.deBruijn64tab", Rows.laid_math_bits_deBruijn64tab), ("internal/strconv.uint64pow10", Rows.laid_internal_strconv_uint64pow10), ("strconv.ErrRange", Rows.laid_strconv_ErrRange), ("strconv.ErrSyntax", Rows.laid_strconv_ErrSyntax)]
theorem door_met (os : Os) (args : Array Value) : laidMetH Tryd.prog laidL ((World.doorLaid Tryd.prog 62 os).forCall (fun _ _ => 0) ⟨#[], args, []⟩).memory :=
  laidMetH_of_parts3 (fuel := 8) (laidMet_of_run' 8 (by kernel_rfl) (by kernel_rfl)) (by kernel_rfl) (by kernel_rfl)
set_option maxRecDepth 100000 in
theorem lifted (os : Os) (started : os.Started) (H : Type) (enc : TypeId × Value → H) :
    ReturnsInHanded {} Tryd.checked os 3 .any (fun w args => (Rows.valueBytesSpec.pre enc Tryd.prog Tryd.f3 [] false w args ∧ laidMetH Tryd.prog laidL w) ∧ sizedMet enc Tryd.prog Tryd.f3 (OpenSpec.ofChange Rows.valueBytesSpec) false w args) (Rows.valueBytesSpec.post enc Tryd.prog Tryd.f3 false true false false) := by
  refine returnsInHanded_of_change_and (C := Tryd.checked) (X := fun w _ => laidMetH Tryd.prog laidL w) (fun _ _ _ hh h => h.of_heap hh) own started (by kernel_rfl) Tryd.func3
    (ChangeSpec.witness_shaped (enc := enc) (C := Tryd.checked) (os := os) (X := fun w _ => laidMetH Tryd.prog laidL w) false (World.doorLaid Tryd.prog 62 os) #[.agg #[.int .i64 0, .int .i64 0, .string ByteArray.empty], .slice none 0 0] 8 rfl (World.shaped_of_RefB (by kernel_rfl) (by kernel_rfl)) (by kernel_rfl) (by kernel_rfl) (by kernel_rfl) (door_met os _)) ?_
  intro W base args ds gs before hval0 hW _ hsz0 hL _
  have hsz : (DataW.weightsEach Tryd.prog (Tryd.f3.params.toList ++ Rows.valueBytesSpec.plain.varTypes Tryd.prog) (ds ++ gs)).all (· ≤ reachBytes) = true := hsz0
  clear hsz0
  have hval : ∀ (j : Nat) t v, Tryd.f3.params[j]? = some t → args[j]? = some v → Value.okWide Tryd.prog W .any base t v := hval0
  have hW' := hW
  obtain ⟨p, q, hA0, hV, rfl, hfz, hnd⟩ := hW
  have hA : DataW.TrodAll enc Tryd.prog W 0 (fun _ => true) true Tryd.f3.params.toList args.toList ds p := hA0
  rw [Tryd.params3] at hA hval hsz
  obtain ⟨v0, vs0, d0, ds0, p0, q0, hargs, rfl, rfl, h0, r0⟩ := trodAll_cons hA
  obtain ⟨v1, vs1, d1, ds1, p1, q1, rfl, rfl, rfl, h1, r1⟩ := trodAll_cons r0
  obtain ⟨rfl, rfl, rfl⟩ := trodAll_nil r1
  obtain rfl : args = #[v0, v1] := by cases args; simp_all
  obtain ⟨rfl, rfl⟩ := trodVars_none hV
  have k0 := h0
  have lt0 : ∀ x ∈ p0, x.block < W.heap.size := by obtain ⟨m, hm⟩ := k0; exact DataW.trod_lt m _ _ _ hm
  obtain ⟨c0a, c0b, c0c, y0a, y0b, y0c, m0, rfl, _, _, hy0a, hy0b, hy0c⟩ := open_agg3 Tryd.underlying24 (by kernel_rfl) (by kernel_rfl) (hval 0 24 v0 rfl rfl) h0
  obtain ⟨vk, e0a, _, wvk⟩ := DataW.trod_int Tryd.underlying22 hy0a
  simp at e0a; subst e0a
  obtain ⟨vn, e0b, _, wvn⟩ := DataW.trod_int Tryd.underlying3 hy0b
  simp at e0b; subst e0b
  obtain ⟨vs, e0c, _, wvs⟩ := DataW.trod_string Tryd.underlying9 hy0c
  simp at e0c; subst e0c
  have k1 := h1
  have lt1 : ∀ x ∈ p1, x.block < W.heap.size := by obtain ⟨m, hm⟩ := k1; exact DataW.trod_lt m _ _ _ hm
  obtain ⟨A1, n1, c1, rfl⟩ := okWide_slice Tryd.underlying25 (hval 1 25 v1 rfl rfl)
  have ⟨m1, hm1⟩ := h1
  obtain ⟨l, ll, hl⟩ := open_bytes Tryd.underlying25 Tryd.underlying5 (by kernel_rfl) hm1
  have zl : l.length ≤ 140737488351232 := by rw [ll]; exact sized_len hsz (j := 1) (t := 25) (e := 5) rfl rfl Tryd.underlying25 (of_decide_eq_true (by kernel_rfl))
  clear hA0 hval0
  have hL' := hL
  rw [MakeChecks.laidMetH_plain _ _ _ (by kernel_rfl)] at hL'
  have ht : Tab W := Lib.tabIs_of_head (g := 3) (by kernel_rfl) (by kernel_rfl) Tryd.underlying114 Tryd.underlying70 (by kernel_rfl) (by kernel_rfl) (laidMet.tail (laidMet.tail hL'))
  have hER : ErrR W := by
    obtain ⟨a0, s0, hv0, _, _, _⟩ := laid_sentinel (g := 1) (nm := "*errors.errorString") (laidMet.tail (laidMet.tail (laidMet.tail hL'))) (by kernel_rfl) (by kernel_rfl) Tryd.underlying82 (fun u hu => typeName_ptr_named (nm := "errors.errorString") (by rw [star]; kernel_rfl) (by kernel_rfl) (by decide) u (by rw [star]; exact hu)) Tryd.underlying104 Tryd.underlying106 rfl rfl Tryd.underlying9 (by kernel_rfl) (by kernel_rfl)
    exact ⟨_, _, hv0⟩
  refine (walk vk vn vs l _ W (wf_i64 wvn) zl hl hER).mono fun e W' ⟨he, bel⟩ => ?_
  subst he
  exact ⟨_, rfl, _, _, _, [], _, [], hW', trodAll_mk1 (shut_bool Tryd.underlying4 _), (trodAll_cons_mk (Below.trod laidOut (by kernel_rfl) (of_decide_eq_true (by kernel_rfl)) k0 bel lt0) (trodAll_cons_mk (Below.trod laidOut (by kernel_rfl) (of_decide_eq_true (by kernel_rfl)) k1 bel lt1) trodAll_mk0)), rfl, bel.frame _, fun h => by cases h⟩

theorem over : Rows.valueBytesRow.holds Tryd.pinned (OpenSpec.ofChange Rows.valueBytesSpec) :=
  OpenClaim.holds_of_wide 3 Tryd.f3 rfl rfl rfl rfl rfl rfl rfl ⟨rfl, rfl, rfl, rfl, rfl⟩ rfl rfl rfl rfl rfl (by kernel_rfl) Tryd.func3 (by kernel_rfl)
    (of_decide_eq_true (by kernel_rfl)) (by unfold Func.isWrapper; first | (rw [if_pos (by decide +kernel)]; kernel_rfl) | (rw [if_neg (by decide +kernel)]; exact ⟨rfl, rfl⟩))
    (fun os started H enc _ => lifted os started H enc)

theorem valueBytes_holds : Rows.ValueBytesSaid := over
theorem valueBytes_card : Rows.ValueBytesCardSaid :=
  Claim7.holds_tied_plain_at .later [] [.data, .data, .data, .sentinel, .sentinel] true (true, "ee43a1431c45aa09a1e8c10d80ee091974414cffea27ff94de9698a802257ea7") true
    over (fun _ h => by cases h) (by kernel_rfl) (fun _ h => by cases h) valueBytes_row_tie rfl ⟨rfl, rfl⟩ (by kernel_rfl) rfl
    (fun f fn hf hfn => by
      obtain rfl : f = 3 := Option.some.inj ((show Tryd.prog.funcNamed "rescind/rescindlaw05.ValueBytes" = some 3 by kernel_rfl).symm.trans hf) |>.symm
      obtain rfl : fn = Tryd.f3 := (Option.some.inj (Tryd.func3.symm.trans hfn)).symm
      exact ⟨by kernel_rfl, fun j t ht => by
        rw [Tryd.params3] at ht
        have hm : t ∈ [24, 25] := by simpa using Array.mem_of_getElem? ht
        have hall : ([24, 25].all fun u => !Tryd.prog.wantsStandIn u) = true := by kernel_rfl
        exact (show Tryd.prog.wantsStandIn t = false by simpa using List.all_eq_true.1 hall t hm)⟩)
    (by kernel_rfl)
end Go.Proofs.YtgjdgejljkhnlabDoor.valueBytes
