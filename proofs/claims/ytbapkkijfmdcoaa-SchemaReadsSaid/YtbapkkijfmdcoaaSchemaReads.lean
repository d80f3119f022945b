/-
  Layer 7 (schema), 7.3: for every bytes, which are read as a schema, and what is wrong with others, is what the document says. No condition.
-/
import Derived.Test.YtbapkkijfmdcoaaSchL
import Derived.Test.YtbapkkijfmdcoaaArgC
import Derived.Test.YtbapkkijfmdcoaaSchQ
import Derived.WalkKit
import Derived.ProofKit
import Derived.OpenShut
import Derived.ShutString
import Derived.ChangeOld
import Derived.Below
import Derived.Lib.SmallJoins
import Derived.SizedLaws
import Derived.Deep.CondSized
import Derived.JoinedCond
set_option linter.unusedVariables false
set_option linter.unusedSimpArgs false
namespace Go.Proofs.Ytbapkkijfmdcoaa.schemaReads
open Go.ChangeShapes Go.WideShapes Go.ChangeAt Go.RowKit Go.Joins
open Go.ChangeMaps (open_string shut_string)
attribute [local go_sem] GW.cell GW.frozen In.eq_true In.le_true In.ne In.ne' In.ne_add In.ne_add' In.lt_add Upto.le_true Upto.le_add Upto.lt_add

set_option maxHeartbeats 8000000 in
set_option maxRecDepth 100000 in
theorem walk (l : List UInt8) (va : Value) (w : World) (hll : l.length ≤ 140737488351232) (hv : By w [] va l) : Calls Try.prog 8 #[va] w fun e w' => e = .returned (.bool true) ∧ Ext w w' := by
  obtain ⟨A, cap0, rfl, _⟩ := id hv
  replace hv := hide hv
  obtain ⟨V, hVl⟩ : ∃ V, scV l = V := ⟨_, rfl⟩
  obtain ⟨x, hXe⟩ : ∃ x, scE l = x := ⟨_, rfl⟩
  obtain ⟨⟨l2, x2⟩, hSt⟩ : ∃ p, scS l = p := ⟨_, rfl⟩
  have hz := scE_zero l
  rw [hXe, hSt] at hz
  have sV : eqP (fun x y : Cl => decide (x = y)) V V = true := by rw [eqP_dec]; simp
  replace sV := hide sV
  replace hXe := hide hXe
  replace hSt := hide hSt
  replace hVl := hide hVl
  by_cases h0 : x = 0
  · subst h0
    obtain rfl : x2 = 0 := hz rfl
    clear hz
    go_enter Try.func8, Try.ntmps8
    go_wp2_with (first | (go_at_call 32; refine (newReader_c [] _ l hll _ hv.out (by simp)).mono ?_; rintro ee w1 ⟨b, rfl, hb, hR1, hX1⟩; have hlit := World.ownsRow_lit (base := w1.heap.size) (e := 5) (size := 1) w1 #[] 0 (Nat.le_refl _) (by decide) rfl) | (at_builtin; refine wpl_app tBytes rfl (.tmp 11) (.tmp 12) rfl rfl hlit rfl (src_sl Try.underlying47 (Sl.ext hv.out (hX1.alloc _)) (bs_one _) (by omega)) (by unfold maxLen; omega) (by omega) (by simp) ?_; intro v2 w2 hp2 hg2 _; replace hp2 := own_app (l := []) hp2; rw [List.nil_append] at hp2; obtain ⟨A2, c2, rfl⟩ := own_form hp2; (have hz1 := hX1.size); (have hX2 := ext_grown (hX1.alloc (.cells #[] 5)) hg2 (fun k hk => by have := (hlit.lt k hk).1; omega)); (have hE2 : Ext w1 w2 := ext_grown ((Ext.refl w1).alloc (.cells #[] 5)) hg2 (fun k hk => (hlit.lt k hk).1)); (have hz2 := hE2.size); (have hbl : b < w1.heap.size := hR1.blt); (have hcb : w2.heap.size ≠ b := by omega); (have hbS : w.heap.size ≤ b ∧ w.heap.size ≤ w2.heap.size := by omega); (have hR : Rdr (w2.alloc (.cells #[.slice A2 l.length c2, .int .i64 0] 57)) [w2.heap.size, b] b (l, 0) := rdr_ext ((rdr_ext hR1 hE2).more (by intro x hx; simp at hx; rcases hx with rfl | rfl <;> simp) (by simp)) ((Ext.refl w2).alloc _)); (have hQ : Qdr (w2.alloc (.cells #[.slice A2 l.length c2, .int .i64 0] 57)) [w2.heap.size, b] w2.heap.size (l, 0) := ⟨by simp, by simp, _, Ob.new w2 _ [_, .int .i64 0], (Sl.own (S := [b]) hp2 (by intro x hx; simp at hx; subst hx; exact hbl) |>.new (S' := [w2.heap.size, b]) (fun x hx => by simp at hx; rcases hx with rfl | rfl <;> simp)).alloc _⟩); (have hX := hX2.alloc (.cells #[.slice A2 l.length c2, .int .i64 0] 57)); clear hp2 hg2 hlit hE2 hz2 hX2 hR1) | (go_at_call 33; refine (schRead_c [w2.heap.size, b] b l _ hR).mono ?_; rintro ee w4 ⟨v4, rfl, o4, hR1, hF1⟩; rw [hVl.out] at o4; rw [hXe.out]; rw [hSt.out] at hR1; have a1 := hF1.size; have hQ1 := hide (hQ.fr hF1 (by simpa using hcb) (by simp)); replace hR1 := hide hR1) | (go_at_call 35; refine (refSchRead_c [w2.heap.size, b] w2.heap.size l _ hQ1.out).mono ?_; rintro ee w5 ⟨v5, rfl, o5, hQ2, hF2⟩; rw [hVl.out] at o5; rw [hXe.out]; rw [hSt.out] at hQ2; have hR2 := hR1.out.fr hF2 (by simpa using Ne.symm hcb) (by simp); have a2 := hF2.size; have o4' := own_fr o4 hF2 (by intro x hx; obtain rfl := List.mem_singleton.1 hx; rw [World.size_alloc]; omega); have s4 := hide (own_cw (S := []) o4' (by simp)); have s5 := hide (own_cw (S := []) o5 (by simp)); have hXA := hide (ext_fr (ext_fr hX hF1 (by simp; omega)) hF2 (by simp; omega)); replace hQ2 := hide hQ2; replace hR2 := hide hR2; clear o4 o4' o5) | (go_at_call 15; (with_reducible refine seq_gw (refSameS_c s4.out s5.out) ?_); rw [sV.out]; intro g6))
    obtain ⟨A', cap', j0, j1, j2, j3, j4⟩ := (qdr_ext hQ2.out g6.grown).lay
    have hltc := (qdr_ext hQ2.out g6.grown).blt
    haveI : In w2.heap.size g6.val := ⟨hltc⟩
    refine wp_region_gw (by kernel_rfl) (by kernel_rfl) ?_
    repeat (go_big_quiet_step (first | (go_at_call 9; with_reducible exact quiet_gw (schLive_c _)) | (go_at_call 34; with_reducible exact quiet_gw ((left_c _ b _ _ _ (rdr_ext hR2.out (g6.grown.trans (GW.grown _)))).mono fun e w' h => ⟨h.1, h.2 ▸ Ext.refl _⟩))))
    refine wpQuiet_nil ?_
    intro g
    go_wp2_with fail
    go_returns
    exact ⟨by first | rfl | simp, hXA.out.trans (g6.grown.trans g.grown)⟩
  · clear hz
    have hx0 : (x != 0) = true := by simp [h0]
    replace h0 := hide h0
    go_enter Try.func8, Try.ntmps8
    go_wp2_with (first | (go_at_call 32; refine (newReader_c [] _ l hll _ hv.out (by simp)).mono ?_; rintro ee w1 ⟨b, rfl, hb, hR1, hX1⟩; have hlit := World.ownsRow_lit (base := w1.heap.size) (e := 5) (size := 1) w1 #[] 0 (Nat.le_refl _) (by decide) rfl) | (at_builtin; refine wpl_app tBytes rfl (.tmp 11) (.tmp 12) rfl rfl hlit rfl (src_sl Try.underlying47 (Sl.ext hv.out (hX1.alloc _)) (bs_one _) (by omega)) (by unfold maxLen; omega) (by omega) (by simp) ?_; intro v2 w2 hp2 hg2 _; replace hp2 := own_app (l := []) hp2; rw [List.nil_append] at hp2; obtain ⟨A2, c2, rfl⟩ := own_form hp2; (have hz1 := hX1.size); (have hX2 := ext_grown (hX1.alloc (.cells #[] 5)) hg2 (fun k hk => by have := (hlit.lt k hk).1; omega)); (have hE2 : Ext w1 w2 := ext_grown ((Ext.refl w1).alloc (.cells #[] 5)) hg2 (fun k hk => (hlit.lt k hk).1)); (have hz2 := hE2.size); (have hbl : b < w1.heap.size := hR1.blt); (have hcb : w2.heap.size ≠ b := by omega); (have hbS : w.heap.size ≤ b ∧ w.heap.size ≤ w2.heap.size := by omega); (have hR : Rdr (w2.alloc (.cells #[.slice A2 l.length c2, .int .i64 0] 57)) [w2.heap.size, b] b (l, 0) := rdr_ext ((rdr_ext hR1 hE2).more (by intro x hx; simp at hx; rcases hx with rfl | rfl <;> simp) (by simp)) ((Ext.refl w2).alloc _)); (have hQ : Qdr (w2.alloc (.cells #[.slice A2 l.length c2, .int .i64 0] 57)) [w2.heap.size, b] w2.heap.size (l, 0) := ⟨by simp, by simp, _, Ob.new w2 _ [_, .int .i64 0], (Sl.own (S := [b]) hp2 (by intro x hx; simp at hx; subst hx; exact hbl) |>.new (S' := [w2.heap.size, b]) (fun x hx => by simp at hx; rcases hx with rfl | rfl <;> simp)).alloc _⟩); (have hX := hX2.alloc (.cells #[.slice A2 l.length c2, .int .i64 0] 57)); clear hp2 hg2 hlit hE2 hz2 hX2 hR1) | (go_at_call 33; refine (schRead_c [w2.heap.size, b] b l _ hR).mono ?_; rintro ee w4 ⟨v4, rfl, o4, hR1, hF1⟩; rw [hVl.out] at o4; rw [hXe.out]; rw [hSt.out] at hR1; have a1 := hF1.size; have hQ1 := hide (hQ.fr hF1 (by simpa using hcb) (by simp)); replace hR1 := hide hR1) | (go_at_call 35; refine (refSchRead_c [w2.heap.size, b] w2.heap.size l _ hQ1.out).mono ?_; rintro ee w5 ⟨v5, rfl, o5, hQ2, hF2⟩; rw [hVl.out] at o5; rw [hXe.out]; rw [hSt.out] at hQ2; have hR2 := hR1.out.fr hF2 (by simpa using Ne.symm hcb) (by simp); have a2 := hF2.size; have o4' := own_fr o4 hF2 (by intro x hx; obtain rfl := List.mem_singleton.1 hx; rw [World.size_alloc]; omega); have s4 := hide (own_cw (S := []) o4' (by simp)); have s5 := hide (own_cw (S := []) o5 (by simp)); have hXA := hide (ext_fr (ext_fr hX hF1 (by simp; omega)) hF2 (by simp; omega)); replace hQ2 := hide hQ2; replace hR2 := hide hR2; clear o4 o4' o5) | (go_at_call 15; (with_reducible refine seq_gw (refSameS_c s4.out s5.out) ?_); rw [sV.out]; intro g6))
    obtain ⟨A', cap', j0, j1, j2, j3, j4⟩ := (qdr_ext hQ2.out g6.grown).lay
    have hltc := (qdr_ext hQ2.out g6.grown).blt
    haveI : In w2.heap.size g6.val := ⟨hltc⟩
    refine wp_region_gw (by kernel_rfl) (by kernel_rfl) ?_
    repeat (go_big_quiet_step (first | (go_at_call 9; with_reducible exact quiet_gw (schLive_c _)) | (go_at_call 34; with_reducible exact quiet_gw ((left_c _ b _ _ _ (rdr_ext hR2.out (g6.grown.trans (GW.grown _)))).mono fun e w' h => ⟨h.1, h.2 ▸ Ext.refl _⟩))))
    refine wpQuiet_nil ?_
    intro g
    go_wp2_with fail
    go_returns
    exact ⟨by first | rfl | simp, hXA.out.trans (g6.grown.trans g.grown)⟩

theorem own : ownKnob Try.prog.godebug = none := by kernel_rfl
theorem laidOut : laidOutB Try.prog = true := by kernel_rfl
set_option maxRecDepth 100000 in
theorem lifted (os : Os) (started : os.Started) (H : Type) (enc : TypeId × Value → H) :
    ReturnsInHanded {} Try.checked os 8 .any (Rows.schemaReadsSpec.pre6 enc Try.prog Try.f8 Rows.schemaReadsRow.domain false) (Rows.schemaReadsSpec.post enc Try.prog Try.f8 false true false false) := by
  refine returnsInHanded_of_change_sized (C := Try.checked) own started (by kernel_rfl) Try.func8
    (ChangeSpec.witness6 (enc := enc) (C := Try.checked) false ⟨#[], #[.slice none 0 0], []⟩ 8 (by kernel_rfl) (by kernel_rfl) (by kernel_rfl) (by kernel_rfl)) ?_
  intro W base args ds gs before hval0 hW hcnd hsz0 _
  have hsz : (DataW.weightsEach Try.prog (Try.f8.params.toList ++ Rows.schemaReadsSpec.plain.varTypes Try.prog) (ds ++ gs)).all (· ≤ reachBytes) = true := hsz0
  clear hsz0
  have hval : ∀ (j : Nat) t v, Try.f8.params[j]? = some t → args[j]? = some v → Value.okWide Try.prog W .any base t v := hval0
  have hW' := hW
  obtain ⟨p, q, hA0, hV, rfl, hfz, hnd⟩ := hW
  have hA : DataW.TrodAll enc Try.prog W 0 (fun _ => true) true Try.f8.params.toList args.toList ds p := hA0
  rw [Try.params8] at hA hval hsz
  obtain ⟨v0, vs0, d0, ds0, p0, q0, hargs, rfl, rfl, h0, r0⟩ := trodAll_cons hA
  obtain ⟨rfl, rfl, rfl⟩ := trodAll_nil r0
  obtain rfl : args = #[v0] := by cases args; simp_all
  obtain ⟨rfl, rfl⟩ := trodVars_none hV
  have k0 := h0
  have lt0 : ∀ x ∈ p0, x.block < W.heap.size := by obtain ⟨m, hm⟩ := k0; exact DataW.trod_lt m _ _ _ hm
  obtain ⟨A0, n0, c0, rfl⟩ := okWide_slice Try.underlying47 (hval 0 47 v0 rfl rfl)
  have ⟨m0, hm0⟩ := h0
  obtain ⟨l, ll, hl⟩ := open_bytes Try.underlying47 Try.underlying5 (by kernel_rfl) hm0
  have zl : l.length ≤ 140737488351232 := by rw [ll]; exact sized_len hsz (j := 0) (t := 47) (e := 5) rfl rfl Try.underlying47 (of_decide_eq_true (by kernel_rfl))
  clear hA0 hval0
  refine (walk l _ W zl hl).mono fun e W' ⟨he, bel⟩ => ?_
  subst he
  exact ⟨_, rfl, _, _, _, [], _, [], hW', trodAll_mk1 (shut_bool Try.underlying4 _), (trodAll_cons_mk (Below.trod laidOut (by kernel_rfl) (of_decide_eq_true (by kernel_rfl)) k0 bel lt0) trodAll_mk0), rfl, bel.frame _, fun h => by cases h⟩

theorem over : Rows.schemaReadsRow.holds Try.pinned (OpenSpec.ofChange Rows.schemaReadsSpec) :=
  OpenClaim.holds_of_wide 8 Try.f8 rfl rfl rfl rfl rfl rfl rfl ⟨rfl, rfl, rfl, rfl, rfl⟩ rfl rfl rfl rfl rfl (by kernel_rfl) Try.func8 (by kernel_rfl)
    (of_decide_eq_true (by kernel_rfl)) (by unfold Func.isWrapper; first | (rw [if_pos (by decide +kernel)]; kernel_rfl) | (rw [if_neg (by decide +kernel)]; exact ⟨rfl, rfl⟩))
    (fun os started H enc _ => lifted os started H enc)

theorem schemaReads_holds : Rows.SchemaReadsSaid := over
end Go.Proofs.Ytbapkkijfmdcoaa.schemaReads
