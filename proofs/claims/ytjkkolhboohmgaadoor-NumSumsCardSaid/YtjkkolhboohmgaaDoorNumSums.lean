/-
  Layer 1 (num), 1.2, 1.5: for every list of numbers the sum is the document's, from either end, or too great. Tied to the tables of the library; no other condition.
-/
import Derived.Test.YtjkkolhboohmgaaDoorNumB
import Derived.Test.YtjkkolhboohmgaaDoorNumW
import Derived.Test.YtjkkolhboohmgaaDoorArg
import Derived.WalkKit
import Derived.ProofKit
import Derived.OpenShut
import Derived.ShutString
import Derived.ChangeOld
import Derived.Below
import Derived.Lib.SmallJoins
import Derived.Test.YtjkkolhboohmgaaDoorTie
import Derived.Test.YtjkkolhboohmgaaDoorCards
import Derived.LaidMore
import Derived.Stop.Joined
import Derived.SevenTiedAt
import Derived.Lib.LaidTab
import Derived.Stop.LaidErr
set_option linter.unusedVariables false
set_option linter.unusedSimpArgs false
namespace Go.Proofs.YtjkkolhboohmgaaDoor.numSums
open Go.ChangeShapes Go.WideShapes Go.ChangeAt Go.RowKit Go.Joins
open Go.ChangeMaps (open_string shut_string)
attribute [local go_sem] GW.cell GW.frozen In.eq_true In.le_true In.ne In.ne' In.ne_add In.ne_add' In.lt_add Upto.le_true Upto.le_add Upto.lt_add okF_true okF_false ovE_true ovE_false
theorem open_nums {H : Type} {enc : TypeId × Value → H} {P : Program} {w : World} {base fuel : Nat} {held : Bool} {t e : TypeId} {v : Value} {x : DataW H × List MemPlace} (ht : P.underlying t = some (.slice e)) (he : P.underlying e = some (.int .i64)) (hc : P.cellsOf e = 1)
    (h : DataW.trod enc P w base (fun _ => true) held fuel t [v] = some x) : ∃ l : List Int, l.length = sliceLen x.1 ∧ Sl w [] 1 v l.length (nums l) ∧ InL l := by
  rcases open_ints ht he hc h with ⟨h1, rfl⟩ | ⟨a, len, cap, zs, h1, _, hl, hm, hz, rfl, hcell, hwf⟩
  · obtain rfl : v = .slice none 0 0 := by simpa using h1
    exact ⟨[], rfl, Sl.nil _ _ _, fun x hx => by simp at hx⟩
  · obtain rfl : v = .slice (some a) len cap := by simpa using h1
    simp at hz
    have hlen : (zs.take len).length = len := by rw [List.length_take]; omega
    refine ⟨zs.take len, by simp [sliceLen, lits], ?_, fun x hx => wf_i64 (hwf x (List.mem_of_mem_take hx))⟩
    rw [hlen]
    refine ⟨some a, cap, rfl, hl, hm, by rw [nums_len, hlen, Nat.mul_one], ?_⟩
    by_cases h0 : len = 0
    · left; subst h0; simp [nums]
    right
    obtain ⟨b, o, rfl⟩ := addr_plain (hcell 0 (by omega)) rfl
    refine ⟨b, o, rfl, by simp, fun j u hu => ?_⟩
    have hj : j < len := by
      rcases Nat.lt_or_ge j len with h | h
      · exact h
      · rw [List.getElem?_eq_none (by rw [nums_len, hlen]; exact h)] at hu; cases hu
    have h1 := hcell j (by omega)
    rw [add_plain] at h1
    rw [h1, ← hu]
    have hjz : j < zs.length := by omega
    have e1 : zs.getD j 0 = zs[j] := by rw [List.getD_eq_getElem?_getD, List.getElem?_eq_getElem hjz]; rfl
    rw [e1]
    simp only [nums, List.getElem?_map, List.getElem?_take, if_pos hj, List.getElem?_eq_getElem hjz, Option.map_some]
theorem sized_len8 {H : Type} {P : Program} {ts : List TypeId} {ds : List (DataW H)} (h : (DataW.weightsEach P ts ds).all (· ≤ reachBytes) = true) {j : Nat} {t e : TypeId} {d : DataW H} (ht : ts[j]? = some t) (hd : ds[j]? = some d) (hu : P.underlying t = some (.slice e)) (hb : 8 ≤ P.bytesOf e) :
    sliceLen d ≤ 17592186043904 := by
  cases d with
  | slice elems spare =>
    have h1 := sized_slice h ht hd hu
    have h2 := Nat.mul_le_mul_left (elems.length + spare.length) hb
    simp only [sliceLen, reachBytes] at *
    omega
  | _ => simp [sliceLen]
theorem isum_reverse (l : List Int) : isum l.reverse = isum l := by
  induction l with
  | nil => rfl
  | cons x r ih => rw [List.reverse_cons, isum_app, isum_one, isum_cons, ih]; omega
attribute [-go_sem] sliced
attribute [local go_sem] sliced_eq
set_option maxHeartbeats 8000000 in
theorem walk (l : List Int) (v : Value) (w : World) (hS : Sl w [] 1 v l.length (nums l)) (hl : InL l) (hz : l.length ≤ 17592186043904) (ht : Tab w) : Calls Tryd.prog 3 #[v] w fun e w' => e = .returned (.bool true) ∧ Ext w w' := by
  obtain ⟨V, eV⟩ : ∃ V, V = sumV l := ⟨_, rfl⟩
  obtain ⟨E, eE⟩ : ∃ E, E = sumE l := ⟨_, rfl⟩
  have hs1 : Hid (∀ w', Ext w w' → Calls Tryd.prog 6 #[v] w' fun e w'' => e = .returned (.tuple #[.int .i64 V, .int .i64 E]) ∧ Ext w' w'') := by
    intro w' h; have := sum_c l hl (by omega) v w' (hS.ext h); rwa [← eV, ← eE] at this
  have hs2 : Hid (∀ w', Ext w w' → Calls Tryd.prog 7 #[v] w' fun e w'' => e = .returned (.tuple #[.int .i64 V, .int .i64 E]) ∧ Ext w' w'') := by
    intro w' h; have := refSum_c l hl hz v w' (hS.ext h); rwa [← eV, ← eE] at this
  have hs3 : Hid (∀ v' w', Sl w' [] 1 v' l.reverse.length (nums l.reverse) → Calls Tryd.prog 6 #[v'] w' fun e w'' => e = .returned (.tuple #[.int .i64 V, .int .i64 E]) ∧ Ext w' w'') := by
    intro v' w' h
    have hl' : InL l.reverse := fun x hx => hl x (List.mem_reverse.1 hx)
    have := sum_c l.reverse hl' (by rw [List.length_reverse]; omega) v' w' h
    have e1 : sumV l.reverse = V := by rw [eV]; unfold sumV; rw [isum_reverse]
    have e2 : sumE l.reverse = E := by rw [eE]; unfold sumE; rw [isum_reverse]
    rwa [e1, e2] at this
  clear eV eE
  obtain ⟨A, cap, rfl, hn, hcap, hlen, hcells⟩ := hS
  replace hcells := hide hcells
  replace hl := hide hl
  clear hlen
  go_enter Tryd.func3, Tryd.ntmps3
  go_wp2_with (first | (go_at_call 6; (first | (with_reducible refine seq_gw' (hs1.out _ (by repeat (first | exact Ext.refl _ | with_reducible assumption | refine Ext.alloc ?_ _ | refine Ext.drew ?_ | refine Ext.drewN ?_ _ | refine ext_gw ?_ _ | refine Ext.setCell ?_ (by first | (simp; done) | (simp [Upto.le_true, Upto.le_add]; done) | (simp; omega)) _))) ?_) | (with_reducible refine seq_gw (hs1.out _ (by repeat (first | exact Ext.refl _ | with_reducible assumption | refine Ext.alloc ?_ _ | refine Ext.drew ?_ | refine Ext.drewN ?_ _ | refine ext_gw ?_ _ | refine Ext.setCell ?_ (by first | (simp; done) | (simp [Upto.le_true, Upto.le_add]; done) | (simp; omega)) _))) ?_)); intro g1) | (go_at_call 7; (first | (with_reducible refine seq_gw' (hs2.out _ (by repeat (first | exact Ext.refl _ | with_reducible assumption | refine Ext.alloc ?_ _ | refine Ext.drew ?_ | refine Ext.drewN ?_ _ | refine ext_gw ?_ _ | refine Ext.setCell ?_ (by first | (simp; done) | (simp [Upto.le_true, Upto.le_add]; done) | (simp; omega)) _))) ?_) | (with_reducible refine seq_gw (hs2.out _ (by repeat (first | exact Ext.refl _ | with_reducible assumption | refine Ext.alloc ?_ _ | refine Ext.drew ?_ | refine Ext.drewN ?_ _ | refine ext_gw ?_ _ | refine Ext.setCell ?_ (by first | (simp; done) | (simp [Upto.le_true, Upto.le_add]; done) | (simp; omega)) _))) ?_)); intro g2))
  have hX0 : Ext w (g2.val.alloc (Obj.cells #[] 3)) := by
    repeat (first | exact Ext.refl _ | with_reducible assumption | refine Ext.alloc ?_ _ | refine Ext.drew ?_ | refine Ext.drewN ?_ _ | refine ext_gw ?_ _ | refine Ext.setCell ?_ (by first | (simp; done) | (simp [Upto.le_true, Upto.le_add]; done) | (simp; omega)) _)
  have hsz0 := hX0.size
  have ho0 : (g2.val.alloc (Obj.cells #[] 3)).ownsRow w.heap.size 3 1 (.slice (some ⟨g2.val.heap.size, 0, none⟩) 0 0) 0 [] := World.ownsRow_made (e := 3) (size := 1) g2.val #[] 0 (ext_gw (Ext.refl w) g2).size (Nat.zero_le _) rfl
  go_loopw [7, 8] (fun b i wr => ∃ (j : Nat) (I : Int), i = .int .i64 I ∧ I = (j : Int) - 1 ∧ j ≤ l.length ∧ wr.ownsRow w.heap.size 3 1 b (l.length - j) (nums (l.drop j).reverse) ∧ Ext w wr) (fun _ i _ => (intOf i + 1).toNat)
  case atStart =>
    refine ⟨l.length, _, rfl, rfl, Nat.le_refl _, ?_, hX0⟩
    rw [Nat.sub_self, List.drop_length]; exact ho0
  case round =>
    obtain ⟨j, I, rfl, hI, hj, hb, hX⟩ := hrel
    clear ho0 hX0 hsz0
    by_cases h0 : 0 ≤ I
    · obtain ⟨m, rfl⟩ := Int.eq_ofNat_of_zero_le h0
      obtain rfl : j = m + 1 := by omega
      have hlt : m < l.length := by omega
      obtain ⟨x, hx⟩ : ∃ x, l[m]? = some x := ⟨_, List.getElem?_eq_getElem hlt⟩
      rcases hcells.out with h0 | ⟨b0, o0, rfl, -, hc⟩
      · have : l.length = 0 := by have := congrArg List.length h0; simpa [nums] using this
        omega
      have hcx : wr.cell? ⟨b0, o0 + m, none⟩ = some (.int .i64 x) := by
        have h1 := hc m (.int .i64 x) (by simp [nums, hx])
        exact (World.cell?_of_block (a := ⟨b0, o0 + m, none⟩) (hX.block b0 (block_lt_of_cell h1))).trans h1
      have hsz := hX.size
      have hdr := hide (show (l.drop m).reverse = (l.drop (m + 1)).reverse ++ [x] by
        rw [List.drop_eq_getElem_cons hlt, List.reverse_cons, Option.some.inj ((List.getElem?_eq_getElem hlt).symm.trans hx)])
      clear hc hI h0
      go_wp2_with (at_builtin; refine wpl_app tInts rfl (.tmp 29) (.tmp 34) rfl rfl (hb.alloc _) rfl (src_one Tryd.underlying22 _ _ _ rfl) (by unfold maxLen; omega) (by omega) (by simp; omega) ?_; intro v' w1 ho hg hd)
      go_roundw
      case rel =>
        refine ⟨m, _, rfl, rfl, by omega, ?_, ext_grown (hX.alloc _) hg fun k hk => (hb.lt k hk).1⟩
        rw [hdr.out, nums_app, show l.length - m = l.length - (m + 1) + 1 by omega]; exact ho
      case measure => first | (simp [intOf]; done) | (simp [intOf]; omega)
    · obtain rfl : j = 0 := by omega
      rw [List.drop_zero] at hb
      have hSl := hide (Sl.own (S := []) hb (by simp))
      rw [Nat.sub_zero, ← List.length_reverse] at hSl
      obtain ⟨A7, c7, rfl⟩ := own_form hb
      replace h0 : I < 0 := by omega
      clear hb hI hcells
      go_wp2_with (first | (go_at_call 6; (first | (with_reducible refine seq_gw' (hs3.out _ _ (Sl.ext hSl.out (by repeat (first | exact Ext.refl _ | with_reducible assumption | refine Ext.alloc ?_ _ | refine Ext.drew ?_ | refine Ext.drewN ?_ _ | refine ext_gw ?_ _ | refine Ext.setCell ?_ (by first | (simp; done) | (simp [Upto.le_true, Upto.le_add]; done) | (simp; omega)) _)))) ?_) | (with_reducible refine seq_gw (hs3.out _ _ (Sl.ext hSl.out (by repeat (first | exact Ext.refl _ | with_reducible assumption | refine Ext.alloc ?_ _ | refine Ext.drew ?_ | refine Ext.drewN ?_ _ | refine ext_gw ?_ _ | refine Ext.setCell ?_ (by first | (simp; done) | (simp [Upto.le_true, Upto.le_add]; done) | (simp; omega)) _)))) ?_)); intro g) | (go_at_call 8; (first | (with_reducible refine seq_gw' (live_c _ (Tab.ext ht (by repeat (first | exact Ext.refl _ | with_reducible assumption | refine Ext.alloc ?_ _ | refine Ext.drew ?_ | refine Ext.drewN ?_ _ | refine ext_gw ?_ _ | refine Ext.setCell ?_ (by first | (simp; done) | (simp [Upto.le_true, Upto.le_add]; done) | (simp; omega)) _)))) ?_) | (with_reducible refine seq_gw (live_c _ (Tab.ext ht (by repeat (first | exact Ext.refl _ | with_reducible assumption | refine Ext.alloc ?_ _ | refine Ext.drew ?_ | refine Ext.drewN ?_ _ | refine ext_gw ?_ _ | refine Ext.setCell ?_ (by first | (simp; done) | (simp [Upto.le_true, Upto.le_add]; done) | (simp; omega)) _)))) ?_)); intro g))
      all_goals
        go_returns
        refine ⟨by first | rfl | (simp [*]; done) | (simp [*]; omega) | (simp; omega), ?_⟩
        repeat (first | exact Ext.refl _ | with_reducible assumption | refine Ext.alloc ?_ _ | refine Ext.drew ?_ | refine Ext.drewN ?_ _ | refine ext_gw ?_ _ | refine Ext.setCell ?_ (by first | (simp; done) | (simp [Upto.le_true, Upto.le_add]; done) | (simp; omega)) _)



theorem own : ownKnob Tryd.prog.godebug = none := by kernel_rfl
theorem laidOut : laidOutB Tryd.prog = true := by kernel_rfl
/-- The variables that the row lists. -/
def laidL : List (String × DataW Unit) := [("math/bits.deBruijn32tab", Rows.laid_math_bits_deBruijn32tab), ("math/bits.deBruijn64tab", Rows.laid_math_bits_deBruijn64tab), ("internal/strconv.uint64pow10", Rows.laid_internal_strconv_uint64pow10)]
theorem door_met (os : Os) (args : Array Value) : laidMetH Tryd.prog laidL ((World.doorLaid Tryd.prog 62 os).forCall (fun _ _ => 0) ⟨#[], args, []⟩).memory :=
  laidMetH_of_parts3 (fuel := 8) (laidMet_of_run' 8 (by kernel_rfl) (by kernel_rfl)) (by kernel_rfl) (by kernel_rfl)
set_option maxRecDepth 100000 in
theorem lifted (os : Os) (started : os.Started) (H : Type) (enc : TypeId × Value → H) :
    ReturnsInHanded {} Tryd.checked os 3 .any (fun w args => (Rows.numSumsSpec.pre enc Tryd.prog Tryd.f3 [] false w args ∧ laidMetH Tryd.prog laidL w) ∧ sizedMet enc Tryd.prog Tryd.f3 (OpenSpec.ofChange Rows.numSumsSpec) false w args) (Rows.numSumsSpec.post enc Tryd.prog Tryd.f3 false true false false) := by
  refine returnsInHanded_of_change_and (C := Tryd.checked) (X := fun w _ => laidMetH Tryd.prog laidL w) (fun _ _ _ hh h => h.of_heap hh) own started (by kernel_rfl) Tryd.func3
    (ChangeSpec.witness_shaped (enc := enc) (C := Tryd.checked) (os := os) (X := fun w _ => laidMetH Tryd.prog laidL w) false (World.doorLaid Tryd.prog 62 os) #[.slice none 0 0] 8 rfl (World.shaped_of_RefB (by kernel_rfl) (by kernel_rfl)) (by kernel_rfl) (by kernel_rfl) (by kernel_rfl) (door_met os _)) ?_
  intro W base args ds gs before hval0 hW _ hsz0 hL _
  have hsz : (DataW.weightsEach Tryd.prog (Tryd.f3.params.toList ++ Rows.numSumsSpec.plain.varTypes Tryd.prog) (ds ++ gs)).all (· ≤ reachBytes) = true := hsz0
  clear hsz0
  have hval : ∀ (j : Nat) t v, Tryd.f3.params[j]? = some t → args[j]? = some v → Value.okWide Tryd.prog W .any base t v := hval0
  have hW' := hW
  obtain ⟨p, q, hA0, hV, rfl, hfz, hnd⟩ := hW
  have hA : DataW.TrodAll enc Tryd.prog W 0 (fun _ => true) true Tryd.f3.params.toList args.toList ds p := hA0
  rw [Tryd.params3] at hA hval hsz
  obtain ⟨v0, vs0, d0, ds0, p0, q0, hargs, rfl, rfl, h0, r0⟩ := trodAll_cons hA
  obtain ⟨rfl, rfl, rfl⟩ := trodAll_nil r0
  obtain rfl : args = #[v0] := by cases args; simp_all
  obtain ⟨rfl, rfl⟩ := trodVars_none hV
  have k0 := h0
  have lt0 : ∀ x ∈ p0, x.block < W.heap.size := by obtain ⟨m, hm⟩ := k0; exact DataW.trod_lt m _ _ _ hm
  obtain ⟨A0, n0, c0, rfl⟩ := okWide_slice Tryd.underlying22 (hval 0 22 v0 rfl rfl)
  have ⟨m0, hm0⟩ := h0
  obtain ⟨l, ll, hl, bl⟩ := open_nums Tryd.underlying22 Tryd.underlying3 (by kernel_rfl) hm0
  have zl : l.length ≤ 17592186043904 := by rw [ll]; exact sized_len8 hsz (j := 0) (t := 22) (e := 3) rfl rfl Tryd.underlying22 (of_decide_eq_true (by kernel_rfl))
  clear hA0 hval0
  have hL' := hL
  rw [MakeChecks.laidMetH_plain _ _ _ (by kernel_rfl)] at hL'
  have ht : Tab W := Lib.tabIs_of_head (g := 2) (by kernel_rfl) (by kernel_rfl) Tryd.underlying69 Tryd.underlying33 (by kernel_rfl) (by kernel_rfl) (laidMet.tail (laidMet.tail hL'))
  refine (walk l _ W hl bl zl ht).mono fun e W' ⟨he, bel⟩ => ?_
  subst he
  exact ⟨_, rfl, _, _, _, [], _, [], hW', trodAll_mk1 (shut_bool Tryd.underlying4 _), (trodAll_cons_mk (Below.trod laidOut (by kernel_rfl) (of_decide_eq_true (by kernel_rfl)) k0 bel lt0) trodAll_mk0), rfl, bel.frame _, fun h => by cases h⟩

theorem over : Rows.numSumsRow.holds Tryd.pinned (OpenSpec.ofChange Rows.numSumsSpec) :=
  OpenClaim.holds_of_wide 3 Tryd.f3 rfl rfl rfl rfl rfl rfl rfl ⟨rfl, rfl, rfl, rfl, rfl⟩ rfl rfl rfl rfl rfl (by kernel_rfl) Tryd.func3 (by kernel_rfl)
    (of_decide_eq_true (by kernel_rfl)) (by unfold Func.isWrapper; first | (rw [if_pos (by decide +kernel)]; kernel_rfl) | (rw [if_neg (by decide +kernel)]; exact ⟨rfl, rfl⟩))
    (fun os started H enc _ => lifted os started H enc)

theorem numSums_holds : Rows.NumSumsSaid := over
theorem numSums_card : Rows.NumSumsCardSaid :=
  Claim7.holds_tied_plain_at .later [] [.data, .data, .data] true (true, "37c1385d515a4ab02c8d03450c514c23b616cf3351d12a6a160651b6f1074f0a") true
    over (fun _ h => by cases h) (by kernel_rfl) (fun _ h => by cases h) numSums_row_tie rfl ⟨rfl, rfl⟩ (by kernel_rfl) rfl
    (fun f fn hf hfn => by
      obtain rfl : f = 3 := Option.some.inj ((show Tryd.prog.funcNamed "rescind/rescindlaw01.NumSums" = some 3 by kernel_rfl).symm.trans hf) |>.symm
      obtain rfl : fn = Tryd.f3 := (Option.some.inj (Tryd.func3.symm.trans hfn)).symm
      exact ⟨by kernel_rfl, fun j t ht => by
        rw [Tryd.params3] at ht
        have hm : t ∈ [22] := by simpa using Array.mem_of_getElem? ht
        have hall : ([22].all fun u => !Tryd.prog.wantsStandIn u) = true := by kernel_rfl
        exact (show Tryd.prog.wantsStandIn t = false by simpa using List.all_eq_true.1 hall t hm)⟩)
    (by kernel_rfl)
end Go.Proofs.YtjkkolhboohmgaaDoor.numSums
