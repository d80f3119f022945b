/-
  Layer 6 (row), 6.3: for every bytes, which are read as rows, one after another, and what is wrong with others, is what the document says. No condition.
-/
import Derived.Test.YtpfcmlmljolplaaRowL
import Derived.Test.YtpfcmlmljolplaaArgV
import Derived.Test.YtpfcmlmljolplaaRowQ
import Derived.Test.YtpfcmlmljolplaaRowB
import Derived.WalkKit
import Derived.ProofKit
import Derived.OpenShut
import Derived.ShutString
import Derived.ChangeOld
import Derived.Below
import Derived.Lib.SmallJoins
import Derived.SizedLaws
import Derived.Deep.CondSized
import Derived.JoinedCond
set_option linter.unusedVariables false
set_option linter.unusedSimpArgs false
namespace Go.Proofs.Ytpfcmlmljolplaa.rowReads
open Go.ChangeShapes Go.WideShapes Go.ChangeAt Go.RowKit Go.Joins
open Go.ChangeMaps (open_string shut_string)
attribute [local go_sem] GW.cell GW.frozen In.eq_true In.le_true In.ne In.ne' In.ne_add In.ne_add' In.lt_add Upto.le_true Upto.le_add Upto.lt_add
theorem rsE_zero : ∀ (n : Nat) (l : List UInt8), rsE n l = 0 → (rsS n l).2 = 0
  | 0, l, _ => rfl
  | n + 1, l, h => by
    simp only [rsE, rsS] at h ⊢
    by_cases h0 : rdE l = 0
    · rw [if_pos h0] at h ⊢; exact rsE_zero n _ h
    · rw [if_neg h0] at h; exact absurd h h0
theorem rwE_zero (l : List UInt8) : rwE l = 0 → (rwS l).2 = 0 := by
  rcases l with _ | ⟨c, r⟩
  · intro h; cases h
  · simp only [rwE, rwS]
    split
    · intro h; cases h
    · exact rsE_zero _ _

set_option maxHeartbeats 8000000 in
set_option maxRecDepth 100000 in
theorem walk (l : List UInt8) (va : Value) (w : World) (hll : l.length ≤ 140737488351232) (hv : By w [] va l) : Calls Try.prog 8 #[va] w fun e w' => e = .returned (.bool true) ∧ Ext w w' := by
  obtain ⟨A, cap0, rfl, _⟩ := id hv
  have hlm : l.length ≤ 9223372036854775806 := by omega
  replace hv := hide hv
  go_enter Try.func8, Try.ntmps8
  go_wp2_with (first | (go_at_call 30; refine (newReader_c [] _ l hll _ hv.out (by simp)).mono ?_; rintro ee w1 ⟨b, rfl, hb, hR1, hX1⟩; have hlit := World.ownsRow_lit (base := w1.heap.size) (e := 5) (size := 1) w1 #[] 0 (Nat.le_refl _) (by decide) rfl) | (at_builtin; refine wpl_app tBytes rfl (.tmp 12) (.tmp 13) rfl rfl hlit rfl (src_sl Try.underlying40 (Sl.ext hv.out (hX1.alloc _)) (bs_one _) (by omega)) (by unfold maxLen; omega) (by omega) (by simp) ?_; intro v2 w2 hp2 hg2 _; replace hp2 := own_app (l := []) hp2; rw [List.nil_append] at hp2; obtain ⟨A2, c2, rfl⟩ := own_form hp2))
  have hz1 := hX1.size
  have hX2 := ext_grown (hX1.alloc (.cells #[] 5)) hg2 (fun k hk => by have := (hlit.lt k hk).1; omega)
  have hE2 : Ext w1 w2 := ext_grown ((Ext.refl w1).alloc (.cells #[] 5)) hg2 (fun k hk => (hlit.lt k hk).1)
  have hz2 := hE2.size
  have hbl : b < w1.heap.size := hR1.blt
  have hcb : w2.heap.size ≠ b := by omega
  have hbS : w.heap.size ≤ b ∧ w.heap.size ≤ w2.heap.size := by omega
  have hR3 : Rdr (w2.alloc (.cells #[.slice A2 l.length c2, .int .i64 0] 50)) [w2.heap.size, b] b (l, 0) :=
    rdr_ext ((rdr_ext hR1 hE2).more (by intro x hx; simp at hx; rcases hx with rfl | rfl <;> simp) (by simp)) ((Ext.refl w2).alloc _)
  have hQ3 : Qdr (w2.alloc (.cells #[.slice A2 l.length c2, .int .i64 0] 50)) [w2.heap.size, b] w2.heap.size (l, 0) :=
    ⟨by simp, by simp, _, Ob.new w2 _ [_, .int .i64 0], (Sl.own (S := [b]) hp2 (by intro x hx; simp at hx; subst hx; exact hbl) |>.new (S' := [w2.heap.size, b]) (fun x hx => by simp at hx; rcases hx with rfl | rfl <;> simp)).alloc _⟩
  have hX3 := hX2.alloc (.cells #[.slice A2 l.length c2, .int .i64 0] 50)
  clear hp2 hg2 hlit hE2 hz2 hX2 hR1
  generalize hc : w2.heap.size = c at *
  generalize (w2.alloc (.cells #[.slice A2 l.length c2, .int .i64 0] 50)) = w3 at *
  clear hc hv hz1 hbl hX1
  go_loopw [5] (fun i wr => ∃ (k : Nat) (st : List UInt8), i = .int .i64 k ∧ k ≤ l.length + 1 ∧ Rdr wr [c, b] b (st, 0) ∧ Qdr wr [c, b] c (st, 0) ∧ Ext w wr) (fun i _ => l.length + 1 - (intOf i).toNat)
  case atStart => exact ⟨0, l, rfl, Nat.zero_le _, hR3, hQ3, hX3⟩
  case round =>
    obtain ⟨k, st, rfl, hk, hR, hQ, hX⟩ := hrel
    by_cases hkl : k ≤ l.length
    · have hkI : (k : Int) ≤ (l.length : Int) := by omega
      obtain ⟨V, hVl⟩ : ∃ V, rwV st = V := ⟨_, rfl⟩
      obtain ⟨x, hXe⟩ : ∃ x, rwE st = x := ⟨_, rfl⟩
      obtain ⟨⟨l2, x2⟩, hSt⟩ : ∃ p, rwS st = p := ⟨_, rfl⟩
      have hz := rwE_zero st
      rw [hXe, hSt] at hz
      have hbl' : b < wr.heap.size := hR.blt
      have hcl' : c < wr.heap.size := hQ.blt
      replace hXe := hide hXe
      replace hSt := hide hSt
      replace hVl := hide hVl
      clear hR3 hQ3 hX3
      by_cases h0 : x = 0
      · subst h0
        obtain rfl : x2 = 0 := hz rfl
        clear hz
        go_wp2_with (first | (go_at_call 31; refine (rowRead_c [c, b] b st _ hR).mono ?_; rintro ee w4 ⟨v4, rfl, o4, hR1, hF1⟩; rw [hVl.out] at o4; rw [hXe.out]; rw [hSt.out] at hR1; have a0 := hbl'; have a1 := hF1.size; have hQ1 := hide (hQ.fr hF1 (by simpa using hcb) (by simp)); replace hR1 := hide hR1) | (go_at_call 33; refine (refRowRead_c [c, b] c st _ hQ1.out).mono ?_; rintro ee w5 ⟨v5, rfl, o5, hQ2, hF2⟩; rw [hVl.out] at o5; rw [hXe.out]; rw [hSt.out] at hQ2; have hR2 := hR1.out.fr hF2 (by simpa using Ne.symm hcb) (by simp); have a2 := hF2.size; have o4' := own_fr o4 hF2 (by simp; omega); have s4 := hide (own_rw (S := []) o4' (by simp)); have s5 := hide (own_rw (S := []) o5 (by simp)); have hXA := hide (ext_fr (ext_fr hX hF1 (by simp; omega)) hF2 (by simp; omega)); replace hQ2 := hide hQ2; replace hR2 := hide hR2; clear o4 o4' o5) | (go_at_call 18; (with_reducible refine seq_gw (refRowSame_c s4.out s5.out) ?_); rw [decide_eq_true rfl]; intro g6))
        obtain ⟨A', cap', j0, j1, j2, j3, j4⟩ := (qdr_ext hQ2.out g6.grown).lay
        have hltc := (qdr_ext hQ2.out g6.grown).blt
        haveI : In c g6.val := ⟨hltc⟩
        refine wp_region_gw (by kernel_rfl) (by kernel_rfl) ?_
        repeat (go_big_quiet_step ((go_at_call 32; with_reducible exact quiet_gw ((left_c _ b _ _ _ (rdr_ext hR2.out (g6.grown.trans (GW.grown _)))).mono fun e w' h => ⟨h.1, h.2 ▸ Ext.refl _⟩))))
        refine wpQuiet_nil ?_
        intro g
        go_wp2_with fail
        go_roundw
        case rel => exact ⟨k + 1, l2, by go_num, by omega, rdr_ext hR2.out (g6.grown.trans g.grown), qdr_ext hQ2.out (g6.grown.trans g.grown), hXA.out.trans (g6.grown.trans g.grown)⟩
        case measure => simp [intOf]; omega
      · clear hz
        replace h0 := hide h0
        have hx0 : (x != 0) = true := by simp [h0.out]
        go_wp2_with (first | (go_at_call 31; refine (rowRead_c [c, b] b st _ hR).mono ?_; rintro ee w4 ⟨v4, rfl, o4, hR1, hF1⟩; rw [hVl.out] at o4; rw [hXe.out]; rw [hSt.out] at hR1; have a0 := hbl'; have a1 := hF1.size; have hQ1 := hide (hQ.fr hF1 (by simpa using hcb) (by simp)); replace hR1 := hide hR1) | (go_at_call 33; refine (refRowRead_c [c, b] c st _ hQ1.out).mono ?_; rintro ee w5 ⟨v5, rfl, o5, hQ2, hF2⟩; rw [hVl.out] at o5; rw [hXe.out]; rw [hSt.out] at hQ2; have hR2 := hR1.out.fr hF2 (by simpa using Ne.symm hcb) (by simp); have a2 := hF2.size; have o4' := own_fr o4 hF2 (by simp; omega); have s4 := hide (own_rw (S := []) o4' (by simp)); have s5 := hide (own_rw (S := []) o5 (by simp)); have hXA := hide (ext_fr (ext_fr hX hF1 (by simp; omega)) hF2 (by simp; omega)); replace hQ2 := hide hQ2; replace hR2 := hide hR2; clear o4 o4' o5) | (go_at_call 18; (with_reducible refine seq_gw (refRowSame_c s4.out s5.out) ?_); rw [decide_eq_true rfl]; intro g6) | (go_at_call 17; (with_reducible refine seq_gw' (rowLive_c _) ?_); intro g7))
        go_returns
        exact ⟨rfl, hXA.out.trans g7.grown⟩
    · have hkI : ¬ (k : Int) ≤ (l.length : Int) := by omega
      go_wp2_with (go_at_call 17; (with_reducible refine seq_gw (rowLive_c _) ?_); intro g7)
      go_returns
      exact ⟨rfl, hX.trans g7.grown⟩

theorem own : ownKnob Try.prog.godebug = none := by kernel_rfl
theorem laidOut : laidOutB Try.prog = true := by kernel_rfl
set_option maxRecDepth 100000 in
theorem lifted (os : Os) (started : os.Started) (H : Type) (enc : TypeId × Value → H) :
    ReturnsInHanded {} Try.checked os 8 .any (Rows.rowReadsSpec.pre6 enc Try.prog Try.f8 Rows.rowReadsRow.domain false) (Rows.rowReadsSpec.post enc Try.prog Try.f8 false true false false) := by
  refine returnsInHanded_of_change_sized (C := Try.checked) own started (by kernel_rfl) Try.func8
    (ChangeSpec.witness6 (enc := enc) (C := Try.checked) false ⟨#[], #[.slice none 0 0], []⟩ 8 (by kernel_rfl) (by kernel_rfl) (by kernel_rfl) (by kernel_rfl)) ?_
  intro W base args ds gs before hval0 hW hcnd hsz0 _
  have hsz : (DataW.weightsEach Try.prog (Try.f8.params.toList ++ Rows.rowReadsSpec.plain.varTypes Try.prog) (ds ++ gs)).all (· ≤ reachBytes) = true := hsz0
  clear hsz0
  have hval : ∀ (j : Nat) t v, Try.f8.params[j]? = some t → args[j]? = some v → Value.okWide Try.prog W .any base t v := hval0
  have hW' := hW
  obtain ⟨p, q, hA0, hV, rfl, hfz, hnd⟩ := hW
  have hA : DataW.TrodAll enc Try.prog W 0 (fun _ => true) true Try.f8.params.toList args.toList ds p := hA0
  rw [Try.params8] at hA hval hsz
  obtain ⟨v0, vs0, d0, ds0, p0, q0, hargs, rfl, rfl, h0, r0⟩ := trodAll_cons hA
  obtain ⟨rfl, rfl, rfl⟩ := trodAll_nil r0
  obtain rfl : args = #[v0] := by cases args; simp_all
  obtain ⟨rfl, rfl⟩ := trodVars_none hV
  have k0 := h0
  have lt0 : ∀ x ∈ p0, x.block < W.heap.size := by obtain ⟨m, hm⟩ := k0; exact DataW.trod_lt m _ _ _ hm
  obtain ⟨A0, n0, c0, rfl⟩ := okWide_slice Try.underlying40 (hval 0 40 v0 rfl rfl)
  have ⟨m0, hm0⟩ := h0
  obtain ⟨l, ll, hl⟩ := open_bytes Try.underlying40 Try.underlying5 (by kernel_rfl) hm0
  have zl : l.length ≤ 140737488351232 := by rw [ll]; exact sized_len hsz (j := 0) (t := 40) (e := 5) rfl rfl Try.underlying40 (of_decide_eq_true (by kernel_rfl))
  clear hA0 hval0
  refine (walk l _ W zl hl).mono fun e W' ⟨he, bel⟩ => ?_
  subst he
  exact ⟨_, rfl, _, _, _, [], _, [], hW', trodAll_mk1 (shut_bool Try.underlying4 _), (trodAll_cons_mk (Below.trod laidOut (by kernel_rfl) (of_decide_eq_true (by kernel_rfl)) k0 bel lt0) trodAll_mk0), rfl, bel.frame _, fun h => by cases h⟩

theorem over : Rows.rowReadsRow.holds Try.pinned (OpenSpec.ofChange Rows.rowReadsSpec) :=
  OpenClaim.holds_of_wide 8 Try.f8 rfl rfl rfl rfl rfl rfl rfl ⟨rfl, rfl, rfl, rfl, rfl⟩ rfl rfl rfl rfl rfl (by kernel_rfl) Try.func8 (by kernel_rfl)
    (of_decide_eq_true (by kernel_rfl)) (by unfold Func.isWrapper; first | (rw [if_pos (by decide +kernel)]; kernel_rfl) | (rw [if_neg (by decide +kernel)]; exact ⟨rfl, rfl⟩))
    (fun os started H enc _ => lifted os started H enc)

theorem rowReads_holds : Rows.RowReadsSaid := over
end Go.Proofs.Ytpfcmlmljolplaa.rowReads
