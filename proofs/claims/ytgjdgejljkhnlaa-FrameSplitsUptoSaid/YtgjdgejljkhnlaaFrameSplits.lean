/-
  Layer 4 (frame), 4.3: two pieces are as good as one. Where what comes in is of bulk at most 1048576.
-/
import Derived.Test.YtgjdgejljkhnlaaFrH
import Derived.Test.YtgjdgejljkhnlaaArg
import Derived.Test.YtgjdgejljkhnlaaBulk
import Derived.WalkKit
import Derived.ProofKit
import Derived.OpenShut
import Derived.ShutString
import Derived.ChangeOld
import Derived.Below
import Derived.Lib.SmallJoins
import Derived.SizedLaws
import Derived.Deep.CondSized
import Derived.JoinedCond
set_option linter.unusedVariables false
set_option linter.unusedSimpArgs false
namespace Go.Proofs.Ytgjdgejljkhnlaa.frameSplits
open Go.ChangeShapes Go.WideShapes Go.ChangeAt Go.RowKit Go.Joins
open Go.ChangeMaps (open_string shut_string)
attribute [local go_sem] GW.cell GW.frozen In.eq_true In.le_true In.ne In.ne' In.ne_add In.ne_add' In.lt_add Upto.le_true Upto.le_add Upto.lt_add
attribute [-go_sem] sliced
attribute [local go_sem] sliced_eq

set_option maxHeartbeats 4000000 in
set_option maxRecDepth 100000 in
theorem walk (l m : List UInt8) (va vm : Value) (w : World) (hl : l.length ≤ 1048576) (hm : m.length ≤ 1048576) (hva : By w [] va l) (hvm : By w [] vm m) : Calls Try.prog 5 #[va, vm] w fun e w' => e = .returned (.bool true) ∧ Ext w w' := by
  obtain ⟨A1, cap1, rfl, hl1, hl2, -⟩ := id hva
  obtain ⟨A2, cap2, rfl, hm1, hm2, -⟩ := id hvm
  unfold maxLen at hl2 hm2
  replace hva := hide hva
  replace hvm := hide hvm
  go_enter Try.func5, Try.ntmps5
  go_wp2_with (first | (go_at_call 10; first | (refine (new_c w0 0).mono ?_; rintro ee w1 ⟨d, rfl, hd, hT0, hX1⟩; have hD := hide (show StG w1 d [] [] from ⟨rfl, hT0⟩); have hbd : b ≠ d := (by have := hS0.out.lt; omega); have hXw := hide (hX0.trans hX1); have hf1 := hide (SP.first hXw.out hb (by have := hX0.size; omega) hbd (hS0.out.ext hX1) hD.out hva.out hl)) | (refine (new_c w 0).mono ?_; rintro ee w0 ⟨b, rfl, hb, hS0, hX0⟩; replace hS0 : Hid (StG w0 b [] []) := ⟨rfl, hS0⟩)) | (go_at_call 11; first | ((with_reducible refine hf3.out.mono ?_); rintro ee w7 ⟨L7, rfl, hQ⟩; replace hQ := hide hQ; obtain ⟨A7, c7, rfl⟩ := own_form hQ.out.2.1.choose_spec.choose_spec.1; obtain ⟨A8, c8, rfl⟩ := own_form hQ.out.1.choose_spec.choose_spec.1; have hh1 := hide (st_held hQ.out.2.2.1); have hh2 := hide (st_held hQ.out.2.2.2.1)) | ((with_reducible refine hf2.out.mono ?_); rintro ee w3 ⟨L3, rfl, hF3⟩; obtain ⟨n3, xs3, ys3, hp1, hp2, hp3, hp4, hp5⟩ := hF3.src; replace hp5 := hide hp5; have hz3 := hp4.size) | ((with_reducible refine hf1.out.mono ?_); rintro ee w2 ⟨L2, rfl, hP2⟩; replace hP2 := hide hP2; have hf2 := hide (hP2.out.feed hvm.out (by omega)))) | (at_builtin; refine wpl_app tFrames rfl (.tmp 15) (.tmp 18) rfl rfl hp1 rfl hp2 (by unfold maxLen; omega) (by omega) hz3 ?_; intro v4 w4 ho4 hg4 hd4; have hP4 := hide (hp5.out v4 w4 ho4 hg4 hd4); have hX4 := hide hP4.out.ext; have hown := hide (World.ownsRow_made (base := w4.heap.size) (e := 5) (size := 1) w4 #[] 0 (Nat.le_refl _) (Nat.zero_le _) rfl); have hza := hide (Sl.ext hva.out (hX4.out.alloc (Obj.cells #[] 5)))) | (at_builtin; refine wpl_app tBytes rfl (.tmp 21) (.tmp 22) rfl rfl hown.out rfl (src_sl Try.underlying22 hza.out (bs_one _) (by omega)) (by unfold maxLen; omega) (by omega) (by simp) ?_; intro v5 w5 ho5 hg5 _; replace ho5 := own_app (l := []) ho5; rw [List.nil_append] at ho5; have hX5 := hide (ext_grown ((Ext.refl w4).alloc _) hg5 (fun k hk => (hown.out.lt k hk).1)); have hzm := hide (Sl.ext hvm.out (hX4.out.trans hX5.out)); have hz5 := hX5.out.size) | (at_builtin; refine wpl_app tBytes rfl (.tmp 23) (.tmp 24) rfl rfl ho5 rfl (src_sl Try.underlying22 hzm.out (bs_one _) (by omega)) (by unfold maxLen; omega) (by omega) hz5 ?_; intro v6 w6 ho6 hg6 _; replace ho6 := own_app ho6; have hX6 := hide (ext_grown hX5.out hg6 (fun k hk => (ho5.lt k hk).1)); have hf3 := hide (hP4.out.other hX6.out ho6 (by rw [List.length_append]; omega))) | (go_at_call 14; first | (refine hh1.out.mono ?_; rintro ee w8 ⟨rfl, hw8⟩; have hw9 := hw8.symm; subst hw9) | (refine hh2.out.mono ?_; rintro ee w8 ⟨rfl, hw8⟩; have hw9 := hw8.symm; subst hw9)))
  obtain ⟨⟨ea, xs, hq1, hq2⟩, ⟨eb, ys, hq3, hq4⟩, hq5, hq6, hq7⟩ := hQ.out
  obtain ⟨F, hF⟩ : ∃ F, F = (cutAll (l ++ m)).1 := ⟨_, rfl⟩
  have hFl : F.length ≤ 2097152 := by have := cut_count _ (l ++ m) (Nat.le_refl _); rw [← hF, List.length_append] at this; omega
  rw [← hF] at hq1 hq2 hq3 hq4
  simp only [← hF]
  have hat := hide (fun i f (hf : F[i]? = some f) => own_cells hq1 hq2 hf)
  have hbt := hide (fun i f (hf : F[i]? = some f) => own_cells hq3 hq4 hf)
  clear hq1 hq2 hq3 hq4 hq5 hq6 hF
  go_loopg [9] F.length (fun g i wr => ∃ k : Nat, i = .int .i64 k ∧ k + g = F.length ∧ Ext w7 wr)
  case atStart => exact ⟨0, rfl, by omega, Ext.refl _⟩
  case round =>
    obtain ⟨k, rfl, hk, hX⟩ := hrel
    by_cases hlt : k < F.length
    · obtain ⟨f, hf⟩ : ∃ f, F[k]? = some f := ⟨_, List.getElem?_eq_getElem hlt⟩
      obtain ⟨g1, cp1, B1, n1, c1, e1, q1, q2, q3⟩ := hat.out k f hf
      obtain ⟨g2, cp2, B2, n2, c2, e2, r1, r2, r3⟩ := hbt.out k f hf
      simp only [Value.slice.injEq, true_and] at e1 e2
      obtain ⟨rfl, rfl⟩ := e1
      obtain ⟨rfl, rfl⟩ := e2
      have hcell : ∀ {b o v}, w7.cell? ⟨b, o, none⟩ = some v → wr.cell? ⟨b, o, none⟩ = some v := fun {b o v} h => (World.cell?_of_block (a := ⟨b, o, none⟩) (hX.block b (block_lt_of_cell h))).trans h
      replace q1 := hcell q1
      replace q2 := hcell q2
      replace r1 := hcell r1
      replace r2 := hcell r2
      have hc1 : ∀ n, (convert 22 9 (.slice B1 n1 c1)).run Try.prog (wr.drewN n) = .ok (.string ⟨f.1.toArray⟩) (wr.drewN n) := fun n => run_str Try.underlying22 Try.underlying5 Try.underlying9 (Sl.ext (S := []) q3 (hX.drewN n))
      have hc2 : ∀ n, (convert 22 9 (.slice B2 n2 c2)).run Try.prog (wr.drewN n) = .ok (.string ⟨f.1.toArray⟩) (wr.drewN n) := fun n => run_str Try.underlying22 Try.underlying5 Try.underlying9 (Sl.ext (S := []) r3 (hX.drewN n))
      clear q3 r3 hcell
      replace hf := hide hf
      go_wp2_with fail
      go_quiet (fail)
      go_wp2_with fail
      go_roundg (F.length - (k + 1))
      case measure => omega
      case rel => exact ⟨k + 1, by go_num, by omega, hX.drewN _⟩
    · have hge : (F.length : Int) ≤ k := by omega
      go_wp2_with (go_at_call 8; refine (live_c _).mono ?_; rintro ee wz ⟨rfl, hXz⟩)
      go_returns
      exact ⟨rfl, (hq7.trans hX).trans hXz⟩
theorem own : ownKnob Try.prog.godebug = none := by kernel_rfl
theorem laidOut : laidOutB Try.prog = true := by kernel_rfl
set_option maxRecDepth 100000 in
theorem lifted (os : Os) (started : os.Started) (H : Type) (enc : TypeId × Value → H) (F : Stop.Interp) :
    ReturnsInHanded {} Try.checked os 5 .any ((Rows.OpenSpec.upto Rows.frameSplitsSpec).pre6 enc Try.prog Try.f5 Rows.frameSplitsUptoRow.domain false) (((Rows.OpenSpec.upto Rows.frameSplitsSpec).at F).post enc Try.prog Try.f5 false true false false) := by
  refine returnsInHanded_of_cond_sized (C := Try.checked) (s := (Rows.OpenSpec.upto Rows.frameSplitsSpec)) rfl own started (by kernel_rfl) Try.func5
    (OpenSpec.witness (enc := enc) (C := Try.checked) (s := (Rows.OpenSpec.upto Rows.frameSplitsSpec)) rfl false ⟨#[], #[.slice none 0 0, .slice none 0 0], []⟩ 8 (by kernel_rfl) (by kernel_rfl) (by kernel_rfl) (x := ([.nil, .nil], [], [])) (by kernel_rfl) (by kernel_rfl) (by kernel_rfl)) ?_
  intro W base args ds gs before hval0 hW hcnd hbulk hsz0 _
  have hsz : (DataW.weightsEach Try.prog (Try.f5.params.toList ++ (Rows.OpenSpec.upto Rows.frameSplitsSpec).bare.plain.varTypes Try.prog) (ds ++ gs)).all (· ≤ reachBytes) = true := hsz0
  clear hsz0
  have hval : ∀ (j : Nat) t v, Try.f5.params[j]? = some t → args[j]? = some v → Value.okWide Try.prog W .any base t v := hval0
  have hW' := hW
  obtain ⟨p, q, hA0, hV, rfl, hfz, hnd⟩ := hW
  have hA : DataW.TrodAll enc Try.prog W 0 (fun _ => true) true Try.f5.params.toList args.toList ds p := hA0
  rw [Try.params5] at hA hval hsz
  obtain ⟨v0, vs0, d0, ds0, p0, q0, hargs, rfl, rfl, h0, r0⟩ := trodAll_cons hA
  obtain ⟨v1, vs1, d1, ds1, p1, q1, rfl, rfl, rfl, h1, r1⟩ := trodAll_cons r0
  obtain ⟨rfl, rfl, rfl⟩ := trodAll_nil r1
  obtain rfl : args = #[v0, v1] := by cases args; simp_all
  obtain ⟨rfl, rfl⟩ := trodVars_none hV
  have k0 := h0
  have lt0 : ∀ x ∈ p0, x.block < W.heap.size := by obtain ⟨m, hm⟩ := k0; exact DataW.trod_lt m _ _ _ hm
  obtain ⟨A0, n0, c0, rfl⟩ := okWide_slice Try.underlying22 (hval 0 22 v0 rfl rfl)
  have ⟨m0, hm0⟩ := h0
  obtain ⟨l, ll, hl⟩ := open_bytes Try.underlying22 Try.underlying5 (by kernel_rfl) hm0
  have zl : l.length ≤ 140737488351232 := by rw [ll]; exact sized_len hsz (j := 0) (t := 22) (e := 5) rfl rfl Try.underlying22 (of_decide_eq_true (by kernel_rfl))
  have k1 := h1
  have lt1 : ∀ x ∈ p1, x.block < W.heap.size := by obtain ⟨m, hm⟩ := k1; exact DataW.trod_lt m _ _ _ hm
  obtain ⟨A1, n1, c1, rfl⟩ := okWide_slice Try.underlying22 (hval 1 22 v1 rfl rfl)
  have ⟨m1, hm1⟩ := h1
  obtain ⟨m, lm, hm⟩ := open_bytes Try.underlying22 Try.underlying5 (by kernel_rfl) hm1
  have zm : m.length ≤ 140737488351232 := by rw [lm]; exact sized_len hsz (j := 1) (t := 22) (e := 5) rfl rfl Try.underlying22 (of_decide_eq_true (by kernel_rfl))
  clear hA0 hval0
  have hb : Rows.uptoBulkAll ([d0, d1] ++ []) ≤ 1048576 := of_decide_eq_true hbulk
  have bs1 : l.length ≤ 1048576 := by have := bulk_len d0; have e : l.length = sliceLen d0 := ll; simp only [List.append_nil, Rows.uptoBulkAll] at hb; omega
  have bs2 : m.length ≤ 1048576 := by have := bulk_len d1; have e : m.length = sliceLen d1 := lm; simp only [List.append_nil, Rows.uptoBulkAll] at hb; omega
  refine (walk l m _ _ W bs1 bs2 hl hm).mono fun e W' ⟨he, bel⟩ => ?_
  subst he
  exact ⟨_, rfl, _, _, _, [], _, [], hW', trodAll_mk1 (shut_bool Try.underlying4 _), (trodAll_cons_mk (Below.trod laidOut (by kernel_rfl) (of_decide_eq_true (by kernel_rfl)) k0 bel lt0) (trodAll_cons_mk (Below.trod laidOut (by kernel_rfl) (of_decide_eq_true (by kernel_rfl)) k1 bel lt1) trodAll_mk0)), rfl, bel.frame _, fun h => by cases h⟩

theorem over : Rows.frameSplitsUptoRow.holds Try.pinned (Rows.OpenSpec.upto Rows.frameSplitsSpec) :=
  OpenClaim.holds_of_cond 5 Try.f5 rfl rfl rfl rfl rfl rfl rfl ⟨rfl, rfl, rfl, rfl, rfl⟩ rfl rfl rfl rfl rfl (by kernel_rfl) Try.func5 (by kernel_rfl)
    (of_decide_eq_true (by kernel_rfl)) (by unfold Func.isWrapper; first | (rw [if_pos (by decide +kernel)]; kernel_rfl) | (rw [if_neg (by decide +kernel)]; exact ⟨rfl, rfl⟩))
    (fun os started H enc _ F => lifted os started H enc F)

theorem frameSplitsUpto_holds : Rows.FrameSplitsUptoSaid := over
end Go.Proofs.Ytgjdgejljkhnlaa.frameSplits
