/-
  Layer 13 (fold), 13.3: for every two lists of messages (of which those of up to 400 count), behind a mark nothing ahead of it changes, whatever messages follow; and the clock never gets lower. No condition.
-/
import Derived.Test.YtobmjcehgpmfgaaGreatPakD
import Derived.Test.YtobmjcehgpmfgaaGreatFolKp
import Derived.Test.YtobmjcehgpmfgaaGreatPakP
import Derived.Test.YtobmjcehgpmfgaaGreatEdgOa
import Derived.WalkKit
import Derived.ProofKit
import Derived.OpenShut
import Derived.ShutString
import Derived.ChangeOld
import Derived.Below
import Derived.Lib.SmallJoins
import Derived.SizedLaws
import Derived.Deep.CondSized
import Derived.JoinedCond
set_option linter.unusedVariables false
set_option linter.unusedSimpArgs false
namespace Go.Proofs.YtobmjcehgpmfgaaGreat.foldKeeps
open Go.ChangeShapes Go.WideShapes Go.ChangeAt Go.RowKit Go.Joins
open Go.ChangeMaps (open_string shut_string)
attribute [local go_sem] GW.cell GW.frozen In.eq_true In.le_true In.ne In.ne' In.ne_add In.ne_add' In.lt_add Upto.le_true Upto.le_add Upto.lt_add
theorem mcOne {w : World} {S : List Nat} {v : Value} {L : List Vm} (h : Mw w S v L) : ∀ x ∈ mc L, x.oneCell' = true := by
  intro x hx
  obtain ⟨p, hp, hx⟩ := List.mem_flatMap.1 hx
  simp only [mc1, List.mem_cons, List.not_mem_nil, or_false] at hx
  rcases hx with rfl | rfl | rfl | rfl | rfl
  · rfl
  · rfl
  · rfl
  · rfl
  · exact row_one (h.2 p hp)
theorem tMsgK : ElemT Tryz.prog 53 97 (.agg #[.int .i64 0, .int .i64 0, .int .i64 0, .int .i64 0, .slice none 0 0]) 5 56 := ElemT.mk' Tryz.underlying53 (by kernel_rfl) rfl (by omega)
theorem own_zeroM {w0 W : World} (hx : Ext w0 W) : (W.alloc (.cells #[] 97)).ownsRow w0.heap.size 97 5 (.slice (some ⟨W.heap.size, 0, none⟩) 0 0) 0 [] := own_base (World.ownsRow_lit (base := W.heap.size) (e := 97) (size := 5) W #[] 0 (Nat.le_refl _) (by decide) rfl) hx.size
theorem mw_both {w0 w : World} {l m : List Vm} {u v b : Value} (hl : Mw w0 [] u l) (hm : Mw w0 [] v m) (ho : w.ownsRow w0.heap.size 97 5 b (l.length + m.length) (([] ++ mc l) ++ mc m)) (hX : Ext w0 w) : Mw w [] b (l ++ m) := by
  refine ⟨?_, fun p hp => ?_⟩
  · have := Sl.own (S := []) ho (by simp)
    rw [List.nil_append] at this
    rw [List.length_append, show mc (l ++ m) = mc l ++ mc m from List.flatMap_append]
    exact this
  · rcases List.mem_append.1 hp with hp | hp
    · exact Sl.ext (hl.2 p hp) hX
    · exact Sl.ext (hm.2 p hp) hX
set_option maxHeartbeats 8000000 in
set_option maxRecDepth 100000 in
theorem walk (l m : List Vm) (hi1 : ∀ p ∈ l, inM p.2) (hi2 : ∀ p ∈ m, inM p.2) (u v : Value) (w : World) (hl : Mw w [] u l) (hm : Mw w [] v m) : Calls Tryz.prog 8 #[u, v] w fun e w' => e = .returned (.bool true) ∧ Ext w w' := by
  by_cases hs1 : l.length ≤ 400
  · by_cases hs2 : m.length ≤ 400
    · have d1 : ¬ (400 : Int) < l.length := by omega
      have d2 : ¬ (400 : Int) < m.length := by omega
      have hck := hide (fun w' (hX : Ext w w') => clock_c l u w' (hl.ext hX) hi1 (by omega))
      have hta := hide (fun w' (hX : Ext w w') => table_c l u w' (hl.ext hX) hi1 (by omega))
      have hiB : ∀ p ∈ l ++ m, inM p.2 := fun p hp => by
        rcases List.mem_append.1 hp with hp | hp
        · exact hi1 p hp
        · exact hi2 p hp
      have hBl : (l ++ m).length ≤ 4096 := by rw [List.length_append]; omega
      have hcb := hide (fun b w' (hb : Mw w' [] b (l ++ m)) => clock_c (l ++ m) b w' hb hiB (by omega))
      have htb := hide (fun b w' (hb : Mw w' [] b (l ++ m)) => table_c (l ++ m) b w' hb hiB hBl)
      have epm : pms (l ++ m) = pms l ++ pms m := by simp [pms]
      rw [epm] at hcb htb
      have hkc := keep_clock (pms l) (pms m)
      have hka := keep_ahead (pms l) (pms m)
      have hP1 := exP_len (pms l)
      have hP2 := exP_len (pms l ++ pms m)
      have hpl : (pms l).length ≤ 400 := by simp only [pms, List.length_map]; exact hs1
      have hpl2 : (pms l ++ pms m).length ≤ 800 := by simp only [pms, List.length_append, List.length_map]; omega
      have few : ∀ {X : List Ed}, X.length ≤ 800 → ppE X = 0 → (ppR X).length ≤ 800 ∧ ∀ e ∈ ppR X, e.1.length ≤ 8 := fun {X} hx h0 => by
        rw [pp_eq] at h0
        refine ⟨Nat.le_trans (pp_once h0 (List.Perm.refl _)).2.2 hx, fun e he => ?_⟩
        rw [pp_ok h0] at he
        exact mayR_len (mayPc_sp (List.all_eq_true.1 (pieces_may (pk_tab h0)) e he)).1
      have few1 := few (X := exP (pms l)) (by omega)
      have few2 := few (X := exP (pms l ++ pms m)) (by omega)
      have mkA : ∀ (R : List Ed), (R.length ≤ 800 ∧ ∀ e ∈ R, e.1.length ≤ 8) → ∀ (t : Int) (M : List Ve), eds M = R → ∀ v w', Ew w' [] v M → Calls Tryz.prog 46 #[v, .int .i64 t] w' fun e w'' => ∃ v' N, e = .returned v' ∧ eds N = R.flatMap (pcAh t) ∧ OwnPr w'' w'.heap.size v' N ∧ Ext w' w'' := fun R hR t M hM v w' hv => by
        have hml : M.length ≤ 800 := by have := congrArg List.length hM; rw [List.length_map] at this; omega
        have := packAhead_c M t (by omega) (fun p hp => by have := hR.2 p.2 (by rw [← hM]; exact List.mem_map_of_mem hp); omega) v w' hv
        rwa [hM] at this
      obtain ⟨E1, hE1⟩ : ∃ E1, E1 = ppE (exP (pms l)) := ⟨_, rfl⟩
      obtain ⟨E2, hE2⟩ : ∃ E2, E2 = ppE (exP (pms l ++ pms m)) := ⟨_, rfl⟩
      rw [← hE1] at hta hka few1
      rw [← hE2] at htb hka few2
      generalize ppR (exP (pms l)) = R1 at *
      generalize ppR (exP (pms l ++ pms m)) = R2 at *
      generalize (runS (0, []) (pms l)).1 = T at *
      generalize (runS (0, []) (pms l ++ pms m)).1 = T2 at *
      have dT : decide (T2 < T) = false := decide_eq_false (by omega)
      obtain ⟨VA, vc, eu⟩ : ∃ A c, u = .slice A l.length c := by obtain ⟨A, c, e, -⟩ := mw_form hl; exact ⟨A, c, e⟩
      obtain ⟨UA, uc, ev⟩ : ∃ A c, v = .slice A m.length c := by obtain ⟨A, c, e, -⟩ := mw_form hm; exact ⟨A, c, e⟩
      subst eu; subst ev
      have h := hide hl
      have h2 := hide hm
      clear hl hm hiB epm hkc hP1 hP2 hpl hpl2 few hE1 hE2 hi1 hi2
      by_cases e1 : E1 = 0
      · by_cases e2 : E2 = 0
        · have hCU := hka e1 e2
          have hA1 := hide (mkA R1 (few1 e1) T)
          have hA2 := hide (mkA R2 (few2 e2) T)
          rw [hCU] at hA1
          subst e1; subst e2
          generalize R2.flatMap (pcAh T) = CU at *
          clear hka few1 few2 mkA hCU
          go_enter Tryz.func8, Tryz.ntmps8
          go_wp2_with (first | (go_at_call 36; first | ((with_reducible refine seq_gw' (hcb.out _ _ (hB.out.ext (x5.trans x6))) ?_); intro g7) | ((with_reducible refine seq_gw (hcb.out _ _ (hB.out.ext (x5.trans x6))) ?_); intro g7)) | (go_at_call 36; first | ((with_reducible refine seq_gw' (hck.out _ Gn.ext) ?_); intro g; have hz0 := hide (own_zeroM (w0 := w) (W := g.val) Gn.ext)) | ((with_reducible refine seq_gw (hck.out _ Gn.ext) ?_); intro g; have hz0 := hide (own_zeroM (w0 := w) (W := g.val) Gn.ext))) | (at_builtin; (refine wpl_app (n := l.length) (m := m.length) tMsgK rfl (.tmp 24) (.tmp 25) rfl rfl ho3.out rfl (src_sl Tryz.underlying53 (h2.out.ext X3.out).1 (mcOne h2.out) (by omega)) (by unfold maxLen; omega) (by omega) X3.out.size ?_; intro v4 w4 ho4 hg4 hv4; have X4 := hide (ext_grown X3.out hg4 (fun z hz => (ho3.out.lt z hz).1)); have hB := hide (mw_both h.out h2.out ho4 X4.out); obtain ⟨A4, c4, e4⟩ := own_form ho4; subst e4; clear hg4 hv4 ho4)) | (at_builtin; (refine wpl_app tMsgK rfl (.tmp 22) (.tmp 23) rfl rfl hz0.out rfl (src_sl Tryz.underlying53 (h.out.ext Gn.ext).1 (mcOne h.out) (by omega)) (by unfold maxLen; omega) (by omega) (Gn.ext (w := w)).size ?_; intro v3 w3 ho3 hg3 hv3; rw [Nat.zero_add] at ho3; have X3 := hide (ext_grown (Gn.ext (w := w)) hg3 (fun z hz => (hz0.out.lt z hz).1)); obtain ⟨A3, c3, e3⟩ := own_form ho3; subst e3; replace ho3 := hide ho3; clear hg3 hv3)) | (go_at_call 42; (refine (htb.out _ w5 (hB.out.ext x5)).mono ?_; rintro ee w6 ⟨v6, M6, rfl, hM6, o6, x6⟩; obtain ⟨AM6, cM6, qM6⟩ := own_form o6.1; subst qM6; have X6 := hide (X5.out.trans x6); replace hM6 := hide hM6; skip)) | (go_at_call 42; (refine (hta.out _ X4.out).mono ?_; rintro ee w5 ⟨v5, M5, rfl, hM5, o5, x5⟩; obtain ⟨AM5, cM5, qM5⟩ := own_form o5.1; subst qM5; have X5 := hide (X4.out.trans x5); replace hM5 := hide hM5; skip)) | (go_at_call 33; first | ((with_reducible refine seq_gw' (foldLive_c _) ?_); intro g8) | ((with_reducible refine seq_gw (foldLive_c _) ?_); intro g8)) | (go_at_call 46; (refine (hA2.out M6 hM6.out _ _ (o6.ew.ext (g8.grown.trans x9))).mono ?_; rintro ee w10 ⟨v10, M10, rfl, hM10, o10, x10⟩; obtain ⟨A10, c10, e10⟩ := own_form o10.1; subst e10; have X10 := hide (X9.out.trans x10); replace hM10 := hide hM10)) | (go_at_call 46; (refine (hA1.out M5 hM5.out _ _ (o5.ew.ext (x6.trans g8.grown))).mono ?_; rintro ee w9 ⟨v9, M9, rfl, hM9, o9, x9⟩; obtain ⟨A9, c9, e9⟩ := own_form o9.1; subst e9; have X9 := hide (X6.out.trans (g8.grown.trans x9)); replace hM9 := hide hM9)) | (go_at_call 30; have hsm := refPieceSame_c (o9.ew.ext x10) o10.ew; rw [hM9.out, hM10.out, decide_eq_true rfl] at hsm; first | ((with_reducible refine seq_gw' hsm ?_); intro g11; clear hsm) | ((with_reducible refine seq_gw hsm ?_); intro g11; clear hsm)))
          go_returns
          exact ⟨by first | rfl | simp, X10.out.trans g11.grown⟩
        · have b2 : (E2 != 0) = true := by rw [bne_iff_ne]; exact e2
          have b2' : (E2 == 0) = false := by simp [e2]
          subst e1
          clear hka few1 few2 mkA
          go_enter Tryz.func8, Tryz.ntmps8
          go_wp2_with (first | (go_at_call 36; first | ((with_reducible refine seq_gw' (hcb.out _ _ (hB.out.ext (x5.trans x6))) ?_); intro g7) | ((with_reducible refine seq_gw (hcb.out _ _ (hB.out.ext (x5.trans x6))) ?_); intro g7)) | (go_at_call 36; first | ((with_reducible refine seq_gw' (hck.out _ Gn.ext) ?_); intro g; have hz0 := hide (own_zeroM (w0 := w) (W := g.val) Gn.ext)) | ((with_reducible refine seq_gw (hck.out _ Gn.ext) ?_); intro g; have hz0 := hide (own_zeroM (w0 := w) (W := g.val) Gn.ext))) | (at_builtin; (refine wpl_app (n := l.length) (m := m.length) tMsgK rfl (.tmp 24) (.tmp 25) rfl rfl ho3.out rfl (src_sl Tryz.underlying53 (h2.out.ext X3.out).1 (mcOne h2.out) (by omega)) (by unfold maxLen; omega) (by omega) X3.out.size ?_; intro v4 w4 ho4 hg4 hv4; have X4 := hide (ext_grown X3.out hg4 (fun z hz => (ho3.out.lt z hz).1)); have hB := hide (mw_both h.out h2.out ho4 X4.out); obtain ⟨A4, c4, e4⟩ := own_form ho4; subst e4; clear hg4 hv4 ho4)) | (at_builtin; (refine wpl_app tMsgK rfl (.tmp 22) (.tmp 23) rfl rfl hz0.out rfl (src_sl Tryz.underlying53 (h.out.ext Gn.ext).1 (mcOne h.out) (by omega)) (by unfold maxLen; omega) (by omega) (Gn.ext (w := w)).size ?_; intro v3 w3 ho3 hg3 hv3; rw [Nat.zero_add] at ho3; have X3 := hide (ext_grown (Gn.ext (w := w)) hg3 (fun z hz => (hz0.out.lt z hz).1)); obtain ⟨A3, c3, e3⟩ := own_form ho3; subst e3; replace ho3 := hide ho3; clear hg3 hv3)) | (go_at_call 42; (refine (htb.out _ w5 (hB.out.ext x5)).mono ?_; rintro ee w6 ⟨v6, M6, rfl, hM6, o6, x6⟩; obtain ⟨AM6, cM6, qM6⟩ := own_form o6.1; subst qM6; have X6 := hide (X5.out.trans x6); replace hM6 := hide hM6; skip)) | (go_at_call 42; (refine (hta.out _ X4.out).mono ?_; rintro ee w5 ⟨v5, M5, rfl, hM5, o5, x5⟩; obtain ⟨AM5, cM5, qM5⟩ := own_form o5.1; subst qM5; have X5 := hide (X4.out.trans x5); replace hM5 := hide hM5; skip)) | (go_at_call 33; first | ((with_reducible refine seq_gw' (foldLive_c _) ?_); intro g8) | ((with_reducible refine seq_gw (foldLive_c _) ?_); intro g8)))
          go_returns
          exact ⟨by first | rfl | simp, X6.out.trans g8.grown⟩
      · have b1 : (E1 != 0) = true := by rw [bne_iff_ne]; exact e1
        have b1' : (E1 == 0) = false := by simp [e1]
        clear hka few1 few2 mkA
        go_enter Tryz.func8, Tryz.ntmps8
        go_wp2_with (first | (go_at_call 36; first | ((with_reducible refine seq_gw' (hcb.out _ _ (hB.out.ext (x5.trans x6))) ?_); intro g7) | ((with_reducible refine seq_gw (hcb.out _ _ (hB.out.ext (x5.trans x6))) ?_); intro g7)) | (go_at_call 36; first | ((with_reducible refine seq_gw' (hck.out _ Gn.ext) ?_); intro g; have hz0 := hide (own_zeroM (w0 := w) (W := g.val) Gn.ext)) | ((with_reducible refine seq_gw (hck.out _ Gn.ext) ?_); intro g; have hz0 := hide (own_zeroM (w0 := w) (W := g.val) Gn.ext))) | (at_builtin; (refine wpl_app (n := l.length) (m := m.length) tMsgK rfl (.tmp 24) (.tmp 25) rfl rfl ho3.out rfl (src_sl Tryz.underlying53 (h2.out.ext X3.out).1 (mcOne h2.out) (by omega)) (by unfold maxLen; omega) (by omega) X3.out.size ?_; intro v4 w4 ho4 hg4 hv4; have X4 := hide (ext_grown X3.out hg4 (fun z hz => (ho3.out.lt z hz).1)); have hB := hide (mw_both h.out h2.out ho4 X4.out); obtain ⟨A4, c4, e4⟩ := own_form ho4; subst e4; clear hg4 hv4 ho4)) | (at_builtin; (refine wpl_app tMsgK rfl (.tmp 22) (.tmp 23) rfl rfl hz0.out rfl (src_sl Tryz.underlying53 (h.out.ext Gn.ext).1 (mcOne h.out) (by omega)) (by unfold maxLen; omega) (by omega) (Gn.ext (w := w)).size ?_; intro v3 w3 ho3 hg3 hv3; rw [Nat.zero_add] at ho3; have X3 := hide (ext_grown (Gn.ext (w := w)) hg3 (fun z hz => (hz0.out.lt z hz).1)); obtain ⟨A3, c3, e3⟩ := own_form ho3; subst e3; replace ho3 := hide ho3; clear hg3 hv3)) | (go_at_call 42; (refine (htb.out _ w5 (hB.out.ext x5)).mono ?_; rintro ee w6 ⟨v6, M6, rfl, hM6, o6, x6⟩; obtain ⟨AM6, cM6, qM6⟩ := own_form o6.1; subst qM6; have X6 := hide (X5.out.trans x6); replace hM6 := hide hM6; skip)) | (go_at_call 42; (refine (hta.out _ X4.out).mono ?_; rintro ee w5 ⟨v5, M5, rfl, hM5, o5, x5⟩; obtain ⟨AM5, cM5, qM5⟩ := own_form o5.1; subst qM5; have X5 := hide (X4.out.trans x5); replace hM5 := hide hM5; skip)) | (go_at_call 33; first | ((with_reducible refine seq_gw' (foldLive_c _) ?_); intro g8) | ((with_reducible refine seq_gw (foldLive_c _) ?_); intro g8)))
        go_returns
        exact ⟨by first | rfl | simp, X6.out.trans g8.grown⟩
    · have d1 : ¬ (400 : Int) < l.length := by omega
      have d2 : (400 : Int) < m.length := by omega
      obtain ⟨VA, vc, eu⟩ : ∃ A c, u = .slice A l.length c := by obtain ⟨A, c, e, -⟩ := mw_form hl; exact ⟨A, c, e⟩
      obtain ⟨UA, uc, ev⟩ : ∃ A c, v = .slice A m.length c := by obtain ⟨A, c, e, -⟩ := mw_form hm; exact ⟨A, c, e⟩
      subst eu; subst ev
      clear hl hm hi1 hi2
      go_enter Tryz.func8, Tryz.ntmps8
      go_wp2_with (go_at_call 33; first | ((with_reducible refine seq_gw' (foldLive_c _) ?_); intro g0) | ((with_reducible refine seq_gw (foldLive_c _) ?_); intro g0))
      go_returns
      exact ⟨by first | rfl | simp, g0.grown⟩
  · have d1 : (400 : Int) < l.length := by omega
    obtain ⟨VA, vc, eu⟩ : ∃ A c, u = .slice A l.length c := by obtain ⟨A, c, e, -⟩ := mw_form hl; exact ⟨A, c, e⟩
    obtain ⟨UA, uc, ev⟩ : ∃ A c, v = .slice A m.length c := by obtain ⟨A, c, e, -⟩ := mw_form hm; exact ⟨A, c, e⟩
    subst eu; subst ev
    clear hl hm hi1 hi2
    go_enter Tryz.func8, Tryz.ntmps8
    go_wp2_with (go_at_call 33; first | ((with_reducible refine seq_gw' (foldLive_c _) ?_); intro g0) | ((with_reducible refine seq_gw (foldLive_c _) ?_); intro g0))
    go_returns
    exact ⟨by first | rfl | simp, g0.grown⟩

theorem own : ownKnob Tryz.prog.godebug = none := by kernel_rfl
theorem laidOut : laidOutB Tryz.prog = true := by kernel_rfl
set_option maxRecDepth 100000 in
theorem lifted (os : Os) (started : os.Started) (H : Type) (enc : TypeId × Value → H) :
    ReturnsInHanded {} Tryz.checked os 8 .any (Rows.foldKeepsSpec.pre6 enc Tryz.prog Tryz.f8 Rows.foldKeepsRow.domain false) (Rows.foldKeepsSpec.post enc Tryz.prog Tryz.f8 false true false false) := by
  refine returnsInHanded_of_change_sized (C := Tryz.checked) own started (by kernel_rfl) Tryz.func8
    (ChangeSpec.witness6 (enc := enc) (C := Tryz.checked) false ⟨#[], #[.slice none 0 0, .slice none 0 0], []⟩ 8 (by kernel_rfl) (by kernel_rfl) (by kernel_rfl) (by kernel_rfl)) ?_
  intro W base args ds gs before hval0 hW hcnd hsz0 _
  have hsz : (DataW.weightsEach Tryz.prog (Tryz.f8.params.toList ++ Rows.foldKeepsSpec.plain.varTypes Tryz.prog) (ds ++ gs)).all (· ≤ reachBytes) = true := hsz0
  clear hsz0
  have hval : ∀ (j : Nat) t v, Tryz.f8.params[j]? = some t → args[j]? = some v → Value.okWide Tryz.prog W .any base t v := hval0
  have hW' := hW
  obtain ⟨p, q, hA0, hV, rfl, hfz, hnd⟩ := hW
  have hA : DataW.TrodAll enc Tryz.prog W 0 (fun _ => true) true Tryz.f8.params.toList args.toList ds p := hA0
  rw [Tryz.params8] at hA hval hsz
  obtain ⟨v0, vs0, d0, ds0, p0, q0, hargs, rfl, rfl, h0, r0⟩ := trodAll_cons hA
  obtain ⟨v1, vs1, d1, ds1, p1, q1, rfl, rfl, rfl, h1, r1⟩ := trodAll_cons r0
  obtain ⟨rfl, rfl, rfl⟩ := trodAll_nil r1
  obtain rfl : args = #[v0, v1] := by cases args; simp_all
  obtain ⟨rfl, rfl⟩ := trodVars_none hV
  have k0 := h0
  have lt0 : ∀ x ∈ p0, x.block < W.heap.size := by obtain ⟨m, hm⟩ := k0; exact DataW.trod_lt m _ _ _ hm
  obtain ⟨A0, n0, c0, rfl⟩ := okWide_slice Tryz.underlying53 (hval 0 53 v0 rfl rfl)
  have ⟨m0, hm0⟩ := h0
  obtain ⟨l, ll, hl, ql⟩ := open_msgs Tryz.underlying53 Tryz.underlying97 (by kernel_rfl) rfl rfl rfl rfl rfl (by kernel_rfl) (by kernel_rfl) (by kernel_rfl) (by kernel_rfl) (by kernel_rfl) Tryz.underlying95 Tryz.underlying3 Tryz.underlying3 Tryz.underlying3 Tryz.underlying24 Tryz.underlying113 (by kernel_rfl) rfl rfl rfl (by kernel_rfl) (by kernel_rfl) (by kernel_rfl) Tryz.underlying111 Tryz.underlying3 Tryz.underlying9 hm0
  have zl : l.length * 56 ≤ 140737488351232 := by rw [ll]; exact sized_elems hsz (j := 0) (t := 53) (e := 97) rfl rfl Tryz.underlying53 (by kernel_rfl)
  have k1 := h1
  have lt1 : ∀ x ∈ p1, x.block < W.heap.size := by obtain ⟨m, hm⟩ := k1; exact DataW.trod_lt m _ _ _ hm
  obtain ⟨A1, n1, c1, rfl⟩ := okWide_slice Tryz.underlying53 (hval 1 53 v1 rfl rfl)
  have ⟨m1, hm1⟩ := h1
  obtain ⟨m, lm, hm, qm⟩ := open_msgs Tryz.underlying53 Tryz.underlying97 (by kernel_rfl) rfl rfl rfl rfl rfl (by kernel_rfl) (by kernel_rfl) (by kernel_rfl) (by kernel_rfl) (by kernel_rfl) Tryz.underlying95 Tryz.underlying3 Tryz.underlying3 Tryz.underlying3 Tryz.underlying24 Tryz.underlying113 (by kernel_rfl) rfl rfl rfl (by kernel_rfl) (by kernel_rfl) (by kernel_rfl) Tryz.underlying111 Tryz.underlying3 Tryz.underlying9 hm1
  have zm : m.length * 56 ≤ 140737488351232 := by rw [lm]; exact sized_elems hsz (j := 1) (t := 53) (e := 97) rfl rfl Tryz.underlying53 (by kernel_rfl)
  clear hA0 hval0
  refine (walk l m ql qm _ _ W hl hm).mono fun e W' ⟨he, bel⟩ => ?_
  subst he
  exact ⟨_, rfl, _, _, _, [], _, [], hW', trodAll_mk1 (shut_bool Tryz.underlying4 _), (trodAll_cons_mk (Below.trod laidOut (by kernel_rfl) (of_decide_eq_true (by kernel_rfl)) k0 bel lt0) (trodAll_cons_mk (Below.trod laidOut (by kernel_rfl) (of_decide_eq_true (by kernel_rfl)) k1 bel lt1) trodAll_mk0)), rfl, bel.frame _, fun h => by cases h⟩

theorem over : Rows.foldKeepsRow.holds Tryz.pinned (OpenSpec.ofChange Rows.foldKeepsSpec) :=
  OpenClaim.holds_of_wide 8 Tryz.f8 rfl rfl rfl rfl rfl rfl rfl ⟨rfl, rfl, rfl, rfl, rfl⟩ rfl rfl rfl rfl rfl (by kernel_rfl) Tryz.func8 Facts.foldKeeps.closed
    (of_decide_eq_true (by kernel_rfl)) (by unfold Func.isWrapper; first | (rw [if_pos (by decide +kernel)]; kernel_rfl) | (rw [if_neg (by decide +kernel)]; exact ⟨rfl, rfl⟩))
    (fun os started H enc _ => lifted os started H enc)

theorem foldKeeps_holds : Rows.FoldKeepsSaid := over
end Go.Proofs.YtobmjcehgpmfgaaGreat.foldKeeps
