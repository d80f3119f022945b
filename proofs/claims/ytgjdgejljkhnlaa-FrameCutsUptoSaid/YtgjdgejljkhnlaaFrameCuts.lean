/-
  Layer 4 (frame), 4.2, 4.3: in whichever pieces bytes come, behind each piece the frames that ended and how many bytes are held are those of all bytes together. Where what comes in is of bulk at most 1048576.
-/
import Derived.Test.YtgjdgejljkhnlaaFrH
import Derived.Test.YtgjdgejljkhnlaaArgr
import Derived.Test.YtgjdgejljkhnlaaBulk
import Derived.WalkKit
import Derived.ProofKit
import Derived.OpenShut
import Derived.ShutString
import Derived.ChangeOld
import Derived.Below
import Derived.Lib.SmallJoins
import Derived.SizedLaws
import Derived.Deep.CondSized
import Derived.JoinedCond
set_option linter.unusedVariables false
set_option linter.unusedSimpArgs false
namespace Go.Proofs.Ytgjdgejljkhnlaa.frameCuts
open Go.ChangeShapes Go.WideShapes Go.ChangeAt Go.RowKit Go.Joins
open Go.ChangeMaps (open_string shut_string)
attribute [local go_sem] GW.cell GW.frozen In.eq_true In.le_true In.ne In.ne' In.ne_add In.ne_add' In.lt_add Upto.le_true Upto.le_add Upto.lt_add
attribute [-go_sem] sliced
attribute [local go_sem] sliced_eq

theorem bulk_each {H : Type} : ∀ l : List (DataW H), (l.map sliceLen).sum ≤ Rows.uptoBulkAll l
  | [] => by simp [Rows.uptoBulkAll]
  | x :: r => by have := bulk_len x; have := bulk_each r; simp only [Rows.uptoBulkAll, List.map_cons, List.sum_cons]; omega
theorem bulk_rows {H : Type} (d : DataW H) : ((sliceEls d).map sliceLen).sum ≤ Rows.uptoBulk d := by
  cases d with
  | slice elems spare => have := bulk_each elems; simp only [sliceEls, Rows.uptoBulk]; omega
  | _ => simp [sliceEls]
set_option maxHeartbeats 4000000 in
set_option maxRecDepth 100000 in
theorem walk (L : List (Value × List UInt8)) (v : Value) (w : World) (hz : total L ≤ 1048576) (hv : Rws w v L) : Calls Try.prog 4 #[v] w fun e w' => e = .returned (.bool true) ∧ Ext w w' := by
  obtain ⟨⟨A, cap, rfl, hlc, hcm, hln, hcell⟩, hrow⟩ := hv
  unfold maxLen at hcm
  replace hcell := hide hcell
  replace hrow := hide hrow
  replace hz := hide hz
  clear hln
  go_enter Try.func4, Try.ntmps4
  go_wp2_with (go_at_call 10; refine (new_c _ 0).mono ?_; rintro ee w0 ⟨b, rfl, hb, hS0, hX0⟩; replace hS0 : Hid (StG w0 b [] []) := ⟨rfl, hS0⟩)
  have hI0 : Hid (CI w b ((w0.alloc (Obj.cells #[] 5)).alloc (Obj.cells #[] 41)) (.slice (some ⟨w0.heap.size, 0, none⟩) 0 0) (.slice (some ⟨w0.heap.size + 1, 0, none⟩) 0 0) (cat L 0)) := by
    have hs := hX0.size
    have hE : Ext w0 ((w0.alloc (Obj.cells #[] 5)).alloc (Obj.cells #[] 41)) := ((Ext.refl w0).alloc _).alloc _
    refine ⟨[], hb, by simp, ?_, ?_, ?_, ⟨[], ?_, ?_⟩, hX0.trans hE⟩
    · rw [cat_zero, cut_nil]; exact hS0.out.ext hE
    · exact own_base ((World.ownsRow_made w0 #[] 0 (Nat.le_refl _) (Nat.zero_le _) rfl).alloc _) hs
    · intro t ht hm; simp [Value.ownBlock] at ht hm; have := hS0.out.lt; omega
    · rw [cat_zero, cut_nil]
      have := World.ownsRow_made (base := w.heap.size) (e := 41) (size := 2) (w0.alloc (Obj.cells #[] 5)) #[] 0 (by simp; omega) (Nat.zero_le _) rfl
      simpa using this
    · rw [cat_zero, cut_nil]; rfl
  clear hS0 hX0
  go_loopg [4, 5, 6] L.length (fun g av gv i wr => ∃ k : Nat, i = .int .i64 k ∧ k + g = L.length ∧ Hid (CI w b wr av gv (cat L k)))
  case atStart => exact ⟨0, rfl, by omega, hI0⟩
  case round =>
    obtain ⟨k, rfl, hk, hI⟩ := hrel
    clear hI0
    by_cases hlt : k < L.length
    · obtain ⟨⟨u, l⟩, hf⟩ : ∃ f, L[k]? = some f := ⟨_, List.getElem?_eq_getElem hlt⟩
      have hu : By w [] u l := hrow.out _ (List.mem_of_getElem? hf)
      have hX : Ext w wr := by obtain ⟨_, _, _, _, _, _, _, h⟩ := hI.out; exact h
      obtain ⟨b0, o0, rfl, hcw⟩ : ∃ b o, A = some ⟨b, o, none⟩ ∧ w.cell? ⟨b, o + k, none⟩ = some u := by
        rcases hcell.out with h | ⟨b, o, rfl, _, hc⟩
        · have : L = [] := by simpa using h
          subst this; simp at hlt
        · exact ⟨b, o, rfl, hc k u (by simp [hf])⟩
      obtain ⟨A1, cap1, rfl, hl1, hl2, -⟩ := id hu
      unfold maxLen at hl2
      have hcat := cat_succ hf
      have hc1 := cat_le L (k + 1)
      rw [hcat, List.length_append] at hc1
      have hcl : (cat L k).length + l.length ≤ 1048576 := Nat.le_trans hc1 hz.out
      replace hcat := hide hcat
      clear hc1
      generalize cat L k = c at hI hcat hcl
      have hcr : (wr.alloc (Obj.cells #[] 5)).cell? ⟨b0, o0 + k, none⟩ = some (.slice A1 l.length cap1) := (World.cell?_of_block (a := ⟨b0, o0 + k, none⟩) ((hX.alloc _).block b0 (block_lt_of_cell hcw))).trans hcw
      have hul := hide (Sl.ext hu (hX.alloc (Obj.cells #[] 5)))
      have hown := hide (World.ownsRow_made (base := wr.heap.size) (e := 5) (size := 1) wr #[] 0 (Nat.le_refl _) (Nat.zero_le _) rfl)
      have hza := hide (hX.alloc (Obj.cells #[] 5)).size
      obtain ⟨Aa, ca, rfl⟩ : ∃ A c', u4 = .slice A c.length c' := by obtain ⟨_, _, _, _, h, _⟩ := hI.out; exact own_form h
      obtain ⟨Ag, cg, rfl⟩ : ∃ A c', u5 = .slice A (cutAll c).1.length c' := by obtain ⟨_, _, _, _, _, _, h, _⟩ := hI.out; exact h.form
      replace hcw := hide hcw
      replace hu := hide hu
      replace hf := hide hf
      clear hX
      go_wp2_with (first | (at_builtin; refine wpl_app tBytes rfl (.tmp 20) (.tmp 24) rfl rfl hown.out rfl (src_sl Try.underlying22 hul.out (bs_one _) (by omega)) (by unfold maxLen; omega) (by omega) (by simp) ?_; intro v1 w1 ho1 hg1 _; replace ho1 := own_app (l := []) ho1; rw [List.nil_append] at ho1; have hX1 := hide (ext_grown ((Ext.refl wr).alloc _) hg1 (fun k hk => (hown.out.lt k hk).1)); have hfd := hide (hI.out.feed hX1.out ho1 hcl)) | (go_at_call 11; refine hfd.out.mono ?_; rintro ee w2 ⟨L3, rfl, hF2⟩; obtain ⟨n3, xs3, ys3, hp1, hp2, hp3, hp4, hp5⟩ := hF2.src; replace hp5 := hide hp5; have hz2 := hp4.size) | (at_builtin; refine wpl_app tFrames rfl (.tmp 18) (.tmp 26) rfl rfl hp1 rfl hp2 (by unfold maxLen; omega) (by omega) hz2 ?_; intro v3 w3 ho3 hg3 hd3; have hG3 := hide (hp5.out v3 w3 ho3 hg3 hd3); obtain ⟨hoa, hXg⟩ := hG3.out.parts; have hzg := hXg.size; have hcr3 := (World.cell?_of_block (a := ⟨b0, o0 + k, none⟩) (hXg.block b0 (block_lt_of_cell hcw.out))).trans hcw.out; have hul3 := hide (Sl.ext hu.out hXg)) | (at_builtin; refine wpl_app tBytes rfl (.tmp 28) (.tmp 32) rfl rfl hoa rfl (src_sl Try.underlying22 hul3.out (bs_one _) (by omega)) (by unfold maxLen; omega) (by omega) hzg ?_; intro v5 w5 ho5 hg5 hd5; replace ho5 := own_app ho5; have hI5 := hide (hG3.out.next ho5 hg5 hd5)) | (go_at_call 12; refine (all_c w5 v5 (c ++ l) (Sl.own (S := []) ho5 (by simp)) (by rw [List.length_append]; omega)).mono ?_; rintro ee w6 ⟨L6, ys6, rfl, ho6, hc6, hX6⟩; have hal := hide (hI5.out.alike hX6 ho6 hc6 (by rw [List.length_append]; exact hcl))) | (go_at_call 13; refine hal.out.mono ?_; rintro ee w7 ⟨rfl, hX7⟩; have hHd := hide ((hI5.out.ext (hX6.trans hX7)).held)) | (go_at_call 14; refine hHd.out.mono ?_; rintro ee w8 ⟨rfl, rfl⟩))
      have hI6 := hI5.out.ext (hX6.trans hX7)
      rw [← hcat.out] at hI6
      go_roundg (L.length - (k + 1))
      case measure => omega
      case rel => exact ⟨k + 1, by go_num, by omega, hide hI6⟩
    · have hge : (L.length : Int) ≤ k := by omega
      have hX : Ext w wr := by obtain ⟨_, _, _, _, _, _, _, h⟩ := hI.out; exact h
      go_wp2_with (go_at_call 8; refine (live_c _).mono ?_; rintro ee wz ⟨rfl, hXz⟩)
      go_returns
      exact ⟨rfl, hX.trans hXz⟩
theorem own : ownKnob Try.prog.godebug = none := by kernel_rfl
theorem laidOut : laidOutB Try.prog = true := by kernel_rfl
set_option maxRecDepth 100000 in
theorem lifted (os : Os) (started : os.Started) (H : Type) (enc : TypeId × Value → H) (F : Stop.Interp) :
    ReturnsInHanded {} Try.checked os 4 .any ((Rows.OpenSpec.upto Rows.frameCutsSpec).pre6 enc Try.prog Try.f4 Rows.frameCutsUptoRow.domain false) (((Rows.OpenSpec.upto Rows.frameCutsSpec).at F).post enc Try.prog Try.f4 false true false false) := by
  refine returnsInHanded_of_cond_sized (C := Try.checked) (s := (Rows.OpenSpec.upto Rows.frameCutsSpec)) rfl own started (by kernel_rfl) Try.func4
    (OpenSpec.witness (enc := enc) (C := Try.checked) (s := (Rows.OpenSpec.upto Rows.frameCutsSpec)) rfl false ⟨#[], #[.slice none 0 0], []⟩ 8 (by kernel_rfl) (by kernel_rfl) (by kernel_rfl) (x := ([.nil], [], [])) (by kernel_rfl) (by kernel_rfl) (by kernel_rfl)) ?_
  intro W base args ds gs before hval0 hW hcnd hbulk hsz0 _
  have hsz : (DataW.weightsEach Try.prog (Try.f4.params.toList ++ (Rows.OpenSpec.upto Rows.frameCutsSpec).bare.plain.varTypes Try.prog) (ds ++ gs)).all (· ≤ reachBytes) = true := hsz0
  clear hsz0
  have hval : ∀ (j : Nat) t v, Try.f4.params[j]? = some t → args[j]? = some v → Value.okWide Try.prog W .any base t v := hval0
  have hW' := hW
  obtain ⟨p, q, hA0, hV, rfl, hfz, hnd⟩ := hW
  have hA : DataW.TrodAll enc Try.prog W 0 (fun _ => true) true Try.f4.params.toList args.toList ds p := hA0
  rw [Try.params4] at hA hval hsz
  obtain ⟨v0, vs0, d0, ds0, p0, q0, hargs, rfl, rfl, h0, r0⟩ := trodAll_cons hA
  obtain ⟨rfl, rfl, rfl⟩ := trodAll_nil r0
  obtain rfl : args = #[v0] := by cases args; simp_all
  obtain ⟨rfl, rfl⟩ := trodVars_none hV
  have k0 := h0
  have lt0 : ∀ x ∈ p0, x.block < W.heap.size := by obtain ⟨m, hm⟩ := k0; exact DataW.trod_lt m _ _ _ hm
  obtain ⟨A0, n0, c0, rfl⟩ := okWide_slice Try.underlying29 (hval 0 29 v0 rfl rfl)
  have ⟨m0, hm0⟩ := h0
  obtain ⟨l, ll, hl, yl⟩ := open_rows Try.underlying29 Try.underlying22 Try.underlying5 (by kernel_rfl) (by kernel_rfl) hm0
  clear hA0 hval0
  have hb : Rows.uptoBulkAll ([d0] ++ []) ≤ 1048576 := of_decide_eq_true hbulk
  have bs1 : total l ≤ 1048576 := by have h := bulk_rows d0; rw [← yl] at h; unfold total; simp only [List.append_nil, Rows.uptoBulkAll] at hb; omega
  refine (walk l _ W bs1 hl).mono fun e W' ⟨he, bel⟩ => ?_
  subst he
  exact ⟨_, rfl, _, _, _, [], _, [], hW', trodAll_mk1 (shut_bool Try.underlying4 _), (trodAll_cons_mk (Below.trod laidOut (by kernel_rfl) (of_decide_eq_true (by kernel_rfl)) k0 bel lt0) trodAll_mk0), rfl, bel.frame _, fun h => by cases h⟩

theorem over : Rows.frameCutsUptoRow.holds Try.pinned (Rows.OpenSpec.upto Rows.frameCutsSpec) :=
  OpenClaim.holds_of_cond 4 Try.f4 rfl rfl rfl rfl rfl rfl rfl ⟨rfl, rfl, rfl, rfl, rfl⟩ rfl rfl rfl rfl rfl (by kernel_rfl) Try.func4 (by kernel_rfl)
    (of_decide_eq_true (by kernel_rfl)) (by unfold Func.isWrapper; first | (rw [if_pos (by decide +kernel)]; kernel_rfl) | (rw [if_neg (by decide +kernel)]; exact ⟨rfl, rfl⟩))
    (fun os started H enc _ F => lifted os started H enc F)

theorem frameCutsUpto_holds : Rows.FrameCutsUptoSaid := over
end Go.Proofs.Ytgjdgejljkhnlaa.frameCuts
