/-
  Layer 1 (num), 1.1: for every two numbers a number is its quotient times the divisor and what is left, and that is nearer to 0 than the divisor, on the number's side. Tied to the tables of the library; no other condition.
-/
import Derived.Test.YtabdjpfijifhmaaDoorNumB
import Derived.WalkKit
import Derived.ProofKit
import Derived.OpenShut
import Derived.ShutString
import Derived.ChangeOld
import Derived.Below
import Derived.Lib.SmallJoins
import Derived.Test.YtabdjpfijifhmaaDoorTie
import Derived.Test.YtabdjpfijifhmaaDoorCards
import Derived.LaidMore
import Derived.Stop.Joined
import Derived.SevenTiedAt
import Derived.Lib.LaidTab
import Derived.Stop.LaidErr
set_option linter.unusedVariables false
set_option linter.unusedSimpArgs false
namespace Go.Proofs.YtabdjpfijifhmaaDoor.numParts
open Go.ChangeShapes Go.WideShapes Go.ChangeAt Go.RowKit Go.Joins
open Go.ChangeMaps (open_string shut_string)
attribute [local go_sem] GW.cell GW.frozen In.eq_true In.le_true In.ne In.ne' In.ne_add In.ne_add' In.lt_add Upto.le_true Upto.le_add Upto.lt_add okF_true okF_false ovE_true ovE_false
set_option maxHeartbeats 8000000 in
theorem walk (a b : Int) (w : World) (wa : (Lit.int .i64 a).wf = true) (wb : (Lit.int .i64 b).wf = true) (ht : Tab w) : Calls Tryd.prog 5 #[.int .i64 a, .int .i64 b] w fun e w' => e = .returned (.bool true) ∧ Ext w w' := by
  have ha : -9223372036854775808 ≤ a ∧ a ≤ 9223372036854775807 := by simpa [Lit.wf, IntKind.min, IntKind.max, IntKind.bits, IntKind.signed] using wa
  have hb : -9223372036854775808 ≤ b ∧ b ≤ 9223372036854775807 := by simpa [Lit.wf, IntKind.min, IntKind.max, IntKind.bits, IntKind.signed] using wb
  clear wa wb
  by_cases h0 : b = 0
  · subst h0
    have e1 : quoE a 0 = 11 := rfl
    have e2 : remE 0 = 11 := rfl
    have e3 : quoV a 0 = 0 := rfl
    have e4 : remV a 0 = 0 := rfl
    go_enter Tryd.func5, Tryd.ntmps5
    go_wp2_with (first | (go_at_call 19; (first | (with_reducible refine seq_gw' (quo_c _ _ ha hb _) ?_) | (with_reducible refine seq_gw (quo_c _ _ ha hb _) ?_)); intro g) | (go_at_call 21; (first | (with_reducible refine seq_gw' (rem_c _ _ ha hb _) ?_) | (with_reducible refine seq_gw (rem_c _ _ ha hb _) ?_)); intro g) | (go_at_call 16; (first | (with_reducible refine seq_gw' (live_c _ (Tab.ext ht (by repeat (first | exact Ext.refl _ | with_reducible assumption | refine Ext.alloc ?_ _ | refine Ext.drew ?_ | refine Ext.drewN ?_ _ | refine ext_gw ?_ _ | refine Ext.setCell ?_ (by first | (simp; done) | (simp [Upto.le_true, Upto.le_add]; done) | (simp; omega)) _)))) ?_) | (with_reducible refine seq_gw (live_c _ (Tab.ext ht (by repeat (first | exact Ext.refl _ | with_reducible assumption | refine Ext.alloc ?_ _ | refine Ext.drew ?_ | refine Ext.drewN ?_ _ | refine ext_gw ?_ _ | refine Ext.setCell ?_ (by first | (simp; done) | (simp [Upto.le_true, Upto.le_add]; done) | (simp; omega)) _)))) ?_)); intro g))
    all_goals
      go_returns
      refine ⟨by first | rfl | (simp [*]; done) | (simp [*]; omega) | (simp; omega), ?_⟩
      repeat (first | exact Ext.refl _ | with_reducible assumption | refine Ext.alloc ?_ _ | refine Ext.drew ?_ | refine Ext.drewN ?_ _ | refine ext_gw ?_ _ | refine Ext.setCell ?_ (by first | (simp; done) | (simp [Upto.le_true, Upto.le_add]; done) | (simp; omega)) _)

  have f0 : (b == 0) = false := by simp [h0]
  by_cases h1 : a = -9223372036854775808 ∧ b = -1
  · obtain ⟨rfl, rfl⟩ := h1
    have e1 : quoE (-9223372036854775808) (-1) = 10 := by decide +kernel
    have e2 : remE (-1) = 0 := by decide +kernel
    have e3 : quoV (-9223372036854775808) (-1) = 0 := by decide +kernel
    have e4 : remV (-9223372036854775808) (-1) = 0 := by decide +kernel
    go_enter Tryd.func5, Tryd.ntmps5
    go_wp2_with (first | (go_at_call 19; (first | (with_reducible refine seq_gw' (quo_c _ _ ha hb _) ?_) | (with_reducible refine seq_gw (quo_c _ _ ha hb _) ?_)); intro g) | (go_at_call 21; (first | (with_reducible refine seq_gw' (rem_c _ _ ha hb _) ?_) | (with_reducible refine seq_gw (rem_c _ _ ha hb _) ?_)); intro g) | (go_at_call 16; (first | (with_reducible refine seq_gw' (live_c _ (Tab.ext ht (by repeat (first | exact Ext.refl _ | with_reducible assumption | refine Ext.alloc ?_ _ | refine Ext.drew ?_ | refine Ext.drewN ?_ _ | refine ext_gw ?_ _ | refine Ext.setCell ?_ (by first | (simp; done) | (simp [Upto.le_true, Upto.le_add]; done) | (simp; omega)) _)))) ?_) | (with_reducible refine seq_gw (live_c _ (Tab.ext ht (by repeat (first | exact Ext.refl _ | with_reducible assumption | refine Ext.alloc ?_ _ | refine Ext.drew ?_ | refine Ext.drewN ?_ _ | refine ext_gw ?_ _ | refine Ext.setCell ?_ (by first | (simp; done) | (simp [Upto.le_true, Upto.le_add]; done) | (simp; omega)) _)))) ?_)); intro g))
    all_goals
      go_returns
      refine ⟨by first | rfl | (simp [*]; done) | (simp [*]; omega) | (simp; omega), ?_⟩
      repeat (first | exact Ext.refl _ | with_reducible assumption | refine Ext.alloc ?_ _ | refine Ext.drew ?_ | refine Ext.drewN ?_ _ | refine ext_gw ?_ _ | refine Ext.setCell ?_ (by first | (simp; done) | (simp [Upto.le_true, Upto.le_add]; done) | (simp; omega)) _)

  have core : ∀ q r p, q * b = p → p + r = a → inR p = true → inR a = true → -9223372036854775808 ≤ q ∧ q ≤ 9223372036854775807 → -9223372036854775808 ≤ p ∧ p ≤ 9223372036854775807 → -9223372036854775808 ≤ r ∧ r ≤ 9223372036854775807 → r.natAbs < b.natAbs → (0 ≤ a → 0 ≤ r) → (a ≤ 0 → r ≤ 0) → quoE a b = 0 → remE b = 0 → quoV a b = q → remV a b = r →
      Calls Tryd.prog 5 #[.int .i64 a, .int .i64 b] w fun e w' => e = .returned (.bool true) ∧ Ext w w' := by
    intro q r p k3 k4 k5 k6 hq' hp' hr' hl s1 s2 e1 e2 e3 e4
    clear h1
    rcases Int.lt_trichotomy a 0 with ka | ka | ka <;> rcases (by omega : b < 0 ∨ 0 < b) with kb | kb
    all_goals
      first
      | (have t1 : r ≤ 0 := s2 (by omega); skip)
      | skip
    all_goals
      first
      | (have t2 : 0 ≤ r := s1 (by omega); skip)
      | skip
    all_goals
      clear s1 s2
      by_cases hbl : b = -9223372036854775808
    all_goals first | (exfalso; omega) | skip
    all_goals first | (subst ka) | skip
    all_goals
      first
      | (have hb1 : (b == -9223372036854775808) = true := by simp [hbl]
         have hb3 : b ≤ -9223372036854775808 := by omega
         clear hbl)
      | (have hb2 : (b == -9223372036854775808) = false := by simp [hbl]
         have hb3 : -9223372036854775807 ≤ b := by omega
         clear hbl)
    all_goals
      go_enter Tryd.func5, Tryd.ntmps5
      go_wp2_with (first | (go_at_call 19; (first | (with_reducible refine seq_gw' (quo_c _ _ ha hb _) ?_) | (with_reducible refine seq_gw (quo_c _ _ ha hb _) ?_)); intro g) | (go_at_call 21; (first | (with_reducible refine seq_gw' (rem_c _ _ ha hb _) ?_) | (with_reducible refine seq_gw (rem_c _ _ ha hb _) ?_)); intro g) | (go_at_call 16; (first | (with_reducible refine seq_gw' (live_c _ (Tab.ext ht (by repeat (first | exact Ext.refl _ | with_reducible assumption | refine Ext.alloc ?_ _ | refine Ext.drew ?_ | refine Ext.drewN ?_ _ | refine ext_gw ?_ _ | refine Ext.setCell ?_ (by first | (simp; done) | (simp [Upto.le_true, Upto.le_add]; done) | (simp; omega)) _)))) ?_) | (with_reducible refine seq_gw (live_c _ (Tab.ext ht (by repeat (first | exact Ext.refl _ | with_reducible assumption | refine Ext.alloc ?_ _ | refine Ext.drew ?_ | refine Ext.drewN ?_ _ | refine ext_gw ?_ _ | refine Ext.setCell ?_ (by first | (simp; done) | (simp [Upto.le_true, Upto.le_add]; done) | (simp; omega)) _)))) ?_)); intro g) | (go_at_call 17; (first | (with_reducible refine seq_gw' (mul_c _ _ hq' hb _) ?_) | (with_reducible refine seq_gw (mul_c _ _ hq' hb _) ?_)); intro g) | (go_at_call 10; (first | (with_reducible refine seq_gw' (add_c _ _ hp' hr' _) ?_) | (with_reducible refine seq_gw (add_c _ _ hp' hr' _) ?_)); intro g))
      all_goals
        go_returns
        refine ⟨by first | rfl | (simp [*]; done) | (simp [*]; omega) | (simp; omega), ?_⟩
        repeat (first | exact Ext.refl _ | with_reducible assumption | refine Ext.alloc ?_ _ | refine Ext.drew ?_ | refine Ext.drewN ?_ _ | refine ext_gw ?_ _ | refine Ext.setCell ?_ (by first | (simp; done) | (simp [Upto.le_true, Upto.le_add]; done) | (simp; omega)) _)

  have hi := tdiv_in ha h1
  have hj := tmod_abs (b := b) ha
  have e1 : quoE a b = 0 := by rw [quoE, if_neg h0, inR_yes hi]; rfl
  have e2 : remE b = 0 := by rw [remE, if_neg h0]
  have e3 : quoV a b = a.tdiv b := by rw [quoV, if_neg h0, inR_yes hi]; rfl
  have e4 : remV a b = a.tmod b := by rw [remV, if_neg h0]
  have hsum := Int.mul_tdiv_add_tmod a b
  rw [Int.mul_comm] at hsum
  have hlt : (a.tmod b).natAbs < b.natAbs := by rw [Int.natAbs_tmod]; exact Nat.mod_lt _ (by omega)
  have hs1 : 0 ≤ a → 0 ≤ a.tmod b := fun h => Int.tmod_nonneg b h
  have hs2 : a ≤ 0 → a.tmod b ≤ 0 := fun h => by
    have := Int.tmod_nonneg b (a := -a) (by omega)
    rw [Int.neg_tmod] at this; omega
  have hpr : -9223372036854775808 ≤ a.tdiv b * b ∧ a.tdiv b * b ≤ 9223372036854775807 := by
    rcases Int.le_total 0 a with h | h
    · have := hs1 h
      rcases Int.le_total 0 b with k | k
      · have := Int.mul_nonneg (Int.tdiv_nonneg h k) k; omega
      · have := Int.mul_nonneg_of_nonpos_of_nonpos (Int.tdiv_nonpos_of_nonneg_of_nonpos h k) k; omega
    · have := hs2 h
      omega
  exact core _ _ _ rfl hsum (inR_yes hpr) (inR_yes ha) hi hpr hj hlt hs1 hs2 e1 e2 e3 e4

theorem own : ownKnob Tryd.prog.godebug = none := by kernel_rfl
theorem laidOut : laidOutB Tryd.prog = true := by kernel_rfl
/-- The variables that the row lists. -/
def laidL : List (String × DataW Unit) := [("math/bits.deBruijn32tab", Rows.laid_math_bits_deBruijn32tab), ("math/bits.deBruijn64tab", Rows.laid_math_bits_deBruijn64tab), ("internal/strconv.uint64pow10", Rows.laid_internal_strconv_uint64pow10)]
theorem door_met (os : Os) (args : Array Value) : laidMetH Tryd.prog laidL ((World.doorLaid Tryd.prog 62 os).forCall (fun _ _ => 0) ⟨#[], args, []⟩).memory :=
  laidMetH_of_parts3 (fuel := 8) (laidMet_of_run' 8 (by kernel_rfl) (by kernel_rfl)) (by kernel_rfl) (by kernel_rfl)
set_option maxRecDepth 100000 in
theorem lifted (os : Os) (started : os.Started) (H : Type) (enc : TypeId × Value → H) :
    ReturnsInHanded {} Tryd.checked os 5 .any (fun w args => (Rows.numPartsSpec.pre enc Tryd.prog Tryd.f5 [] false w args ∧ laidMetH Tryd.prog laidL w) ∧ sizedMet enc Tryd.prog Tryd.f5 (OpenSpec.ofChange Rows.numPartsSpec) false w args) (Rows.numPartsSpec.post enc Tryd.prog Tryd.f5 false true false false) := by
  refine returnsInHanded_of_change_and (C := Tryd.checked) (X := fun w _ => laidMetH Tryd.prog laidL w) (fun _ _ _ hh h => h.of_heap hh) own started (by kernel_rfl) Tryd.func5
    (ChangeSpec.witness_shaped (enc := enc) (C := Tryd.checked) (os := os) (X := fun w _ => laidMetH Tryd.prog laidL w) false (World.doorLaid Tryd.prog 62 os) #[.int .i64 0, .int .i64 0] 8 rfl (World.shaped_of_RefB (by kernel_rfl) (by kernel_rfl)) (by kernel_rfl) (by kernel_rfl) (by kernel_rfl) (door_met os _)) ?_
  intro W base args ds gs before hval0 hW _ _ hL _
  have hval : ∀ (j : Nat) t v, Tryd.f5.params[j]? = some t → args[j]? = some v → Value.okWide Tryd.prog W .any base t v := hval0
  have hW' := hW
  obtain ⟨p, q, hA0, hV, rfl, hfz, hnd⟩ := hW
  have hA : DataW.TrodAll enc Tryd.prog W 0 (fun _ => true) true Tryd.f5.params.toList args.toList ds p := hA0
  rw [Tryd.params5] at hA hval
  obtain ⟨v0, vs0, d0, ds0, p0, q0, hargs, rfl, rfl, h0, r0⟩ := trodAll_cons hA
  obtain ⟨v1, vs1, d1, ds1, p1, q1, rfl, rfl, rfl, h1, r1⟩ := trodAll_cons r0
  obtain ⟨rfl, rfl, rfl⟩ := trodAll_nil r1
  obtain rfl : args = #[v0, v1] := by cases args; simp_all
  obtain ⟨rfl, rfl⟩ := trodVars_none hV
  have k0 := h0
  have lt0 : ∀ x ∈ p0, x.block < W.heap.size := by obtain ⟨m, hm⟩ := k0; exact DataW.trod_lt m _ _ _ hm
  obtain ⟨a, rfl, _, _, wa⟩ := open_int Tryd.underlying3 (hval 0 3 v0 rfl rfl) h0
  have k1 := h1
  have lt1 : ∀ x ∈ p1, x.block < W.heap.size := by obtain ⟨m, hm⟩ := k1; exact DataW.trod_lt m _ _ _ hm
  obtain ⟨b, rfl, _, _, wb⟩ := open_int Tryd.underlying3 (hval 1 3 v1 rfl rfl) h1
  clear hA0 hval0
  have hL' := hL
  rw [MakeChecks.laidMetH_plain _ _ _ (by kernel_rfl)] at hL'
  have ht : Tab W := Lib.tabIs_of_head (g := 2) (by kernel_rfl) (by kernel_rfl) Tryd.underlying72 Tryd.underlying38 (by kernel_rfl) (by kernel_rfl) (laidMet.tail (laidMet.tail hL'))
  refine (walk a b W wa wb ht).mono fun e W' ⟨he, bel⟩ => ?_
  subst he
  exact ⟨_, rfl, _, _, _, [], _, [], hW', trodAll_mk1 (shut_bool Tryd.underlying4 _), (trodAll_cons_mk (Below.trod laidOut (by kernel_rfl) (of_decide_eq_true (by kernel_rfl)) k0 bel lt0) (trodAll_cons_mk (Below.trod laidOut (by kernel_rfl) (of_decide_eq_true (by kernel_rfl)) k1 bel lt1) trodAll_mk0)), rfl, bel.frame _, fun h => by cases h⟩

theorem over : Rows.numPartsRow.holds Tryd.pinned (OpenSpec.ofChange Rows.numPartsSpec) :=
  OpenClaim.holds_of_wide 5 Tryd.f5 rfl rfl rfl rfl rfl rfl rfl ⟨rfl, rfl, rfl, rfl, rfl⟩ rfl rfl rfl rfl rfl (by kernel_rfl) Tryd.func5 (by kernel_rfl)
    (of_decide_eq_true (by kernel_rfl)) (by unfold Func.isWrapper; first | (rw [if_pos (by decide +kernel)]; kernel_rfl) | (rw [if_neg (by decide +kernel)]; exact ⟨rfl, rfl⟩))
    (fun os started H enc _ => lifted os started H enc)

theorem numParts_holds : Rows.NumPartsSaid := over
theorem numParts_card : Rows.NumPartsCardSaid :=
  Claim7.holds_tied_plain_at .later [] [.data, .data, .data] true (true, "3dd2ea40db30463334805f3bfe9d1acbb24482e2b5b0366ffb4c968f44a1c383") true
    over (fun _ h => by cases h) (by kernel_rfl) (fun _ h => by cases h) numParts_row_tie rfl ⟨rfl, rfl⟩ (by kernel_rfl) rfl
    (fun f fn hf hfn => by
      obtain rfl : f = 5 := Option.some.inj ((show Tryd.prog.funcNamed "rescind/rescindlaw01.NumParts" = some 5 by kernel_rfl).symm.trans hf) |>.symm
      obtain rfl : fn = Tryd.f5 := (Option.some.inj (Tryd.func5.symm.trans hfn)).symm
      exact ⟨by kernel_rfl, fun j t ht => by
        rw [Tryd.params5] at ht
        have hm : t ∈ [3, 3] := by simpa using Array.mem_of_getElem? ht
        have hall : ([3, 3].all fun u => !Tryd.prog.wantsStandIn u) = true := by kernel_rfl
        exact (show Tryd.prog.wantsStandIn t = false by simpa using List.all_eq_true.1 hall t hm)⟩)
    (by kernel_rfl)
end Go.Proofs.YtabdjpfijifhmaaDoor.numParts
