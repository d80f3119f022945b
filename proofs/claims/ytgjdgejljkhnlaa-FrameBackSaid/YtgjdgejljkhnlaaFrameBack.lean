/-
  Layer 4 (frame), 4.4: bodies of up to 4096 bytes that were wrapped, fed one behind the other, are the frames that come out, and nothing is held; longer ones are refused. No condition.
-/
import Derived.Test.YtgjdgejljkhnlaaFrL
import Derived.Test.YtgjdgejljkhnlaaArgr
import Derived.WalkKit
import Derived.ProofKit
import Derived.OpenShut
import Derived.ShutString
import Derived.ChangeOld
import Derived.Below
import Derived.Lib.SmallJoins
import Derived.SizedLaws
import Derived.Deep.CondSized
import Derived.JoinedCond
set_option linter.unusedVariables false
set_option linter.unusedSimpArgs false
namespace Go.Proofs.Ytgjdgejljkhnlaa.frameBack
open Go.ChangeShapes Go.WideShapes Go.ChangeAt Go.RowKit Go.Joins
open Go.ChangeMaps (open_string shut_string)
attribute [local go_sem] GW.cell GW.frozen In.eq_true In.le_true In.ne In.ne' In.ne_add In.ne_add' In.lt_add Upto.le_true Upto.le_add Upto.lt_add
attribute [-go_sem] sliced
attribute [local go_sem] sliced_eq

theorem cut_wrap (l : List UInt8) (hl : l.length ≤ 4096) : cutAll ([] ++ (fhead l.length ++ l)) = ([(l, 0)], []) := by
  obtain ⟨x, y, e, hf⟩ : ∃ x y, fhead l.length = [x, y] ∧ flen x y = l.length := ⟨_, _, rfl, by unfold flen; rw [UInt8.toNat_ofNat', UInt8.toNat_ofNat']; omega⟩
  rw [e]
  show cutAll (x :: y :: l) = _
  rw [cut_ge (by omega), hf, List.take_length, List.drop_length, cut_nil]
  unfold held ferr
  rw [if_pos (by omega), if_neg (by omega)]
set_option maxHeartbeats 4000000 in
set_option maxRecDepth 100000 in
theorem walk (L : List (Value × List UInt8)) (v : Value) (w : World) (hv : Rws w v L) : Calls Try.prog 6 #[v] w fun e w' => e = .returned (.bool true) ∧ Ext w w' := by
  obtain ⟨⟨A, cap, rfl, hlc, hcm, hln, hcell⟩, hrow⟩ := hv
  unfold maxLen at hcm
  replace hcell := hide hcell
  replace hrow := hide hrow
  clear hln
  go_enter Try.func6, Try.ntmps6
  go_wp2_with (go_at_call 10; refine (new_c _ 0).mono ?_; rintro ee w0 ⟨b, rfl, hb, hS0, hX0⟩; replace hS0 : Hid (StG w0 b [] []) := ⟨rfl, hS0⟩)
  go_loopg [4] L.length (fun g i wr => ∃ k : Nat, i = .int .i64 k ∧ k + g = L.length ∧ Hid (StG wr b [] []) ∧ Ext w wr)
  case atStart => exact ⟨0, rfl, by omega, hS0, hX0⟩
  case round =>
    obtain ⟨k, rfl, hk, hS, hX⟩ := hrel
    clear hS0 hX0
    by_cases hlt : k < L.length
    · obtain ⟨⟨u, l⟩, hf⟩ : ∃ f, L[k]? = some f := ⟨_, List.getElem?_eq_getElem hlt⟩
      have hu : By w [] u l := hrow.out _ (List.mem_of_getElem? hf)
      obtain ⟨b0, o0, rfl, hcw⟩ : ∃ b o, A = some ⟨b, o, none⟩ ∧ w.cell? ⟨b, o + k, none⟩ = some u := by
        rcases hcell.out with h | ⟨b, o, rfl, _, hc⟩
        · have : L = [] := by simpa using h
          subst this; simp at hlt
        · exact ⟨b, o, rfl, hc k u (by simp [hf])⟩
      obtain ⟨A1, cap1, rfl, hl1, hl2, -⟩ := id hu
      unfold maxLen at hl2
      have hcr : wr.cell? ⟨b0, o0 + k, none⟩ = some (.slice A1 l.length cap1) := (World.cell?_of_block (a := ⟨b0, o0 + k, none⟩) (hX.block b0 (block_lt_of_cell hcw))).trans hcw
      have hur : By wr [] (.slice A1 l.length cap1) l := Sl.ext hu hX
      replace hf := hide hf
      by_cases hl : 4096 < l.length
      · have hw := hide (wrap_long [] l hl _ wr hur)
        have hlI : (4096 : Int) < (l.length : Int) := by omega
        clear hu hur hcw
        go_wp2_with (go_at_call 7; refine hw.out.mono ?_; rintro ee w1 ⟨rfl, rfl⟩)
        go_roundg (L.length - (k + 1))
        case measure => omega
        case rel => exact ⟨k + 1, by go_num, by omega, hS, hX⟩
      · replace hl : l.length ≤ 4096 := by omega
        have hw := hide (wrap_c [] l hl _ wr hur)
        have hlI : (l.length : Int) ≤ 4096 := by omega
        replace hcw := hide hcw
        replace hu := hide hu
        clear hur
        go_wp2_with (first | (go_at_call 7; refine hw.out.mono ?_; rintro ee w1 ⟨v1, rfl, ho1, hX1⟩; have hcr1 := (World.cell?_of_block (a := ⟨b0, o0 + k, none⟩) (hX1.block b0 (block_lt_of_cell hcr))).trans hcr; have hfd := hide (feed_c w1 b [] [] [] (by simp) (hS.out.ext hX1) (by decide) v1 (fhead l.length ++ l) (Sl.own ho1 (by simp; exact hS.out.lt)) (by simp [fhead]; omega))) | (go_at_call 11; refine hfd.out.mono ?_; rintro ee w2 ⟨L2, G2, rfl, hO2, hS2, hn2, hF2⟩; rw [cut_wrap l hl] at hO2 hS2; obtain ⟨rfl, -⟩ := id hS2; replace hS2 := hide hS2; obtain ⟨g2, cp2, A2, m2, c2, rfl, hg2, hd1, hd2, hbody⟩ := hO2.at (i := 0) rfl))
        have hz1 := hX.size
        have hz2 := hX1.size
        have hb0 : b0 < w.heap.size := block_lt_of_cell hcw.out
        have hXr : Fr [b] wr w2 := (Fr.of_ext hX1).then hF2 (by simp)
        have hcr2 : w2.cell? ⟨b0, o0 + k, none⟩ = some (.slice A1 l.length cap1) := (World.cell?_of_block (a := ⟨b0, o0 + k, none⟩) (hXr.block b0 (block_lt_of_cell hcr) (by simp; omega))).trans hcr
        have hX2 : Ext w w2 := ext_fr hX hXr (by simp; exact hb)
        simp only [Nat.zero_mul, Nat.zero_add] at hd1 hd2
        haveI : In b0 w2 := ⟨block_lt_of_cell hcr2⟩
        haveI : In g2 w2 := ⟨block_lt_of_cell hd1⟩
        have hHd := hide (fun g : GW w2 => ((st_held (hS2.out.ext g.grown).st).mono fun e w' ⟨he, hw⟩ => (⟨he, hw ▸ Ext.refl _⟩ : e = Ending.returned (.int .i64 ((0 : Nat) : Int)) ∧ Ext g.val w')))
        have hcv1 : ∀ g : GW w2, (convert 22 9 (.slice A2 m2 c2)).run Try.prog g.val = .ok (.string ⟨l.toArray⟩) g.val := fun g => run_str Try.underlying22 Try.underlying5 Try.underlying9 (Sl.ext hbody g.grown)
        have hcv2 : ∀ g : GW w2, (convert 22 9 (.slice A1 l.length cap1)).run Try.prog g.val = .ok (.string ⟨l.toArray⟩) g.val := fun g => run_str Try.underlying22 Try.underlying5 Try.underlying9 (Sl.ext hu.out (hX2.trans g.grown))
        clear hO2 hbody hfd hw hXr hcr hcr1 hF2 hn2 ho1
        refine wp_region_gw (by kernel_rfl) (by kernel_rfl) ?_
        repeat (go_big_quiet_step ((go_at_call 14; exact quiet_gw (hHd.out _))))
        refine wpQuiet_nil ?_
        intro g
        go_wp2_with fail
        go_roundg (L.length - (k + 1))
        case measure => omega
        case rel => exact ⟨k + 1, by go_num, by omega, hide (hS2.out.ext g.grown), hX2.trans g.grown⟩
    · have hge : (L.length : Int) ≤ k := by omega
      go_wp2_with (go_at_call 8; refine (live_c _).mono ?_; rintro ee wz ⟨rfl, hXz⟩)
      go_returns
      exact ⟨rfl, hX.trans hXz⟩
theorem own : ownKnob Try.prog.godebug = none := by kernel_rfl
theorem laidOut : laidOutB Try.prog = true := by kernel_rfl
set_option maxRecDepth 100000 in
theorem lifted (os : Os) (started : os.Started) (H : Type) (enc : TypeId × Value → H) :
    ReturnsInHanded {} Try.checked os 6 .any (Rows.frameBackSpec.pre6 enc Try.prog Try.f6 Rows.frameBackRow.domain false) (Rows.frameBackSpec.post enc Try.prog Try.f6 false true false false) := by
  refine returnsInHanded_of_change_sized (C := Try.checked) own started (by kernel_rfl) Try.func6
    (ChangeSpec.witness6 (enc := enc) (C := Try.checked) false ⟨#[], #[.slice none 0 0], []⟩ 8 (by kernel_rfl) (by kernel_rfl) (by kernel_rfl) (by kernel_rfl)) ?_
  intro W base args ds gs before hval0 hW hcnd hsz0 _
  have hsz : (DataW.weightsEach Try.prog (Try.f6.params.toList ++ Rows.frameBackSpec.plain.varTypes Try.prog) (ds ++ gs)).all (· ≤ reachBytes) = true := hsz0
  clear hsz0
  have hval : ∀ (j : Nat) t v, Try.f6.params[j]? = some t → args[j]? = some v → Value.okWide Try.prog W .any base t v := hval0
  have hW' := hW
  obtain ⟨p, q, hA0, hV, rfl, hfz, hnd⟩ := hW
  have hA : DataW.TrodAll enc Try.prog W 0 (fun _ => true) true Try.f6.params.toList args.toList ds p := hA0
  rw [Try.params6] at hA hval hsz
  obtain ⟨v0, vs0, d0, ds0, p0, q0, hargs, rfl, rfl, h0, r0⟩ := trodAll_cons hA
  obtain ⟨rfl, rfl, rfl⟩ := trodAll_nil r0
  obtain rfl : args = #[v0] := by cases args; simp_all
  obtain ⟨rfl, rfl⟩ := trodVars_none hV
  have k0 := h0
  have lt0 : ∀ x ∈ p0, x.block < W.heap.size := by obtain ⟨m, hm⟩ := k0; exact DataW.trod_lt m _ _ _ hm
  obtain ⟨A0, n0, c0, rfl⟩ := okWide_slice Try.underlying29 (hval 0 29 v0 rfl rfl)
  have ⟨m0, hm0⟩ := h0
  obtain ⟨l, ll, hl, yl⟩ := open_rows Try.underlying29 Try.underlying22 Try.underlying5 (by kernel_rfl) (by kernel_rfl) hm0
  clear hA0 hval0
  refine (walk l _ W hl).mono fun e W' ⟨he, bel⟩ => ?_
  subst he
  exact ⟨_, rfl, _, _, _, [], _, [], hW', trodAll_mk1 (shut_bool Try.underlying4 _), (trodAll_cons_mk (Below.trod laidOut (by kernel_rfl) (of_decide_eq_true (by kernel_rfl)) k0 bel lt0) trodAll_mk0), rfl, bel.frame _, fun h => by cases h⟩

theorem over : Rows.frameBackRow.holds Try.pinned (OpenSpec.ofChange Rows.frameBackSpec) :=
  OpenClaim.holds_of_wide 6 Try.f6 rfl rfl rfl rfl rfl rfl rfl ⟨rfl, rfl, rfl, rfl, rfl⟩ rfl rfl rfl rfl rfl (by kernel_rfl) Try.func6 (by kernel_rfl)
    (of_decide_eq_true (by kernel_rfl)) (by unfold Func.isWrapper; first | (rw [if_pos (by decide +kernel)]; kernel_rfl) | (rw [if_neg (by decide +kernel)]; exact ⟨rfl, rfl⟩))
    (fun os started H enc _ => lifted os started H enc)

theorem frameBack_holds : Rows.FrameBackSaid := over
end Go.Proofs.Ytgjdgejljkhnlaa.frameBack
