/-
  Layer 13 (fold), 13.4: for every list of messages (of which those of up to 400 count), the edges of all changes, added up, are those of the table. No condition.
-/
import Derived.Test.YtobmjcehgpmfgaaGreatPakD
import Derived.Test.YtobmjcehgpmfgaaGreatFoldSumsF
import Derived.WalkKit
import Derived.ProofKit
import Derived.OpenShut
import Derived.ShutString
import Derived.ChangeOld
import Derived.Below
import Derived.Lib.SmallJoins
import Derived.SizedLaws
import Derived.Deep.CondSized
import Derived.JoinedCond
set_option linter.unusedVariables false
set_option linter.unusedSimpArgs false
namespace Go.Proofs.YtobmjcehgpmfgaaGreat.foldSums
open Go.ChangeShapes Go.WideShapes Go.ChangeAt Go.RowKit Go.Joins
open Go.ChangeMaps (open_string shut_string)
attribute [local go_sem] GW.cell GW.frozen In.eq_true In.le_true In.ne In.ne' In.ne_add In.ne_add' In.lt_add Upto.le_true Upto.le_add Upto.lt_add
theorem chs_get : ∀ (L : List (Value × Ch)) (i : Nat) (p : Value × Ch), L[i]? = some p → ∀ j u, (chO p.1 p.2)[j]? = some u → (L.flatMap fun p => chO p.1 p.2)[i * 6 + j]? = some u
  | q :: r, 0, p, h, j, u, hu => by
    simp at h; subst h
    have hj : j < (chO q.1 q.2).length := (List.getElem?_eq_some_iff.1 hu).1
    rw [List.flatMap_cons, List.getElem?_append_left (by omega), show 0 * 6 + j = j by omega]; exact hu
  | q :: r, i + 1, p, h, j, u, hu => by
    have := chs_get r i p (by simpa using h) j u hu
    rw [List.flatMap_cons, show (i + 1) * 6 + j = (chO q.1 q.2).length + (i * 6 + j) by simp [chO]; omega, List.getElem?_append_right (by omega), Nat.add_sub_cancel_left]
    exact this
theorem own_chat {w : World} {base : Nat} {v : Value} {L : List (Value × Ch)} (h : OwnCh w base v L) {k : Nat} {p : Value × Ch} (hp : L[k]? = some p) : ∃ g cap PA pc, v = .slice (some ⟨g, 0, none⟩) L.length cap ∧ g < w.heap.size ∧ p.1 = .slice PA p.2.2.1.length pc ∧ w.cell? ⟨g, k * 6, none⟩ = some (.int .i64 p.2.1) ∧ w.cell? ⟨g, k * 6 + 1, none⟩ = some p.1 ∧ w.cell? ⟨g, k * 6 + 2, none⟩ = some (.int .i64 p.2.2.2.1.1) ∧ w.cell? ⟨g, k * 6 + 3, none⟩ = some (.int .i64 p.2.2.2.1.2) ∧ w.cell? ⟨g, k * 6 + 4, none⟩ = some (.int .i64 p.2.2.2.2.1) ∧ w.cell? ⟨g, k * 6 + 5, none⟩ = some (.int .i64 p.2.2.2.2.2) := by
  have hk : k < L.length := (List.getElem?_eq_some_iff.1 hp).1
  obtain ⟨PA, pc, e⟩ := rwo_val (h.2 p (List.mem_of_getElem? hp))
  rcases h.1.2 with ⟨-, h2⟩ | ⟨g, cap, cur, rfl, hb, hg, -⟩
  · omega
  · have c0 := h.1.cells (g := g) rfl (k * 6 + 0) _ (chs_get L k p hp 0 _ rfl)
    have c1 := h.1.cells (g := g) rfl (k * 6 + 1) _ (chs_get L k p hp 1 _ rfl)
    have c2 := h.1.cells (g := g) rfl (k * 6 + 2) _ (chs_get L k p hp 2 _ rfl)
    have c3 := h.1.cells (g := g) rfl (k * 6 + 3) _ (chs_get L k p hp 3 _ rfl)
    have c4 := h.1.cells (g := g) rfl (k * 6 + 4) _ (chs_get L k p hp 4 _ rfl)
    have c5 := h.1.cells (g := g) rfl (k * 6 + 5) _ (chs_get L k p hp 5 _ rfl)
    rw [add_plain, Nat.zero_add] at c0 c1 c2 c3 c4 c5
    exact ⟨g, cap, PA, pc, rfl, block_lt_of_cell c0, e, c0, c1, c2, c3, c4, c5⟩
theorem own_zeroE {w1 W : World} (hx : Ext w1 W) : OwnEr (W.alloc (.cells #[] 115)) w1.heap.size (.slice (some ⟨W.heap.size, 0, none⟩) 0 0) [] := ⟨own_base (World.ownsRow_lit (base := W.heap.size) (e := 115) (size := 3) W #[] 0 (Nat.le_refl _) (by decide) rfl) hx.size, by simp⟩
set_option maxHeartbeats 8000000 in
set_option maxRecDepth 100000 in
theorem walk (l : List Vm) (hi : ∀ p ∈ l, inM p.2) (u : Value) (w : World) (hl : Mw w [] u l) : Calls Tryz.prog 9 #[u] w fun e w' => e = .returned (.bool true) ∧ Ext w w' := by
  by_cases hs : l.length ≤ 400
  · have d1 : ¬ (400 : Int) < l.length := by omega
    have hch := hide (fun w' (hX : Ext w w') => changes_c l u w' (hl.ext hX) hi (by omega))
    have hta := hide (fun w' (hX : Ext w w') => table_c l u w' (hl.ext hX) hi (by omega))
    have hpl : (pms l).length ≤ 400 := by simp only [pms, List.length_map]; exact hs
    obtain ⟨t1, t2, t3, t4⟩ := tab_amt (pms l) hpl
    have hCl : (runC (0, []) (pms l)).length ≤ 400 := Nat.le_trans (runC_len _ _) hpl
    have hCo := hide (runC_ok (pms l) ex_okS)
    have hsum : Hid (∀ (E : List Ed) (V : List Vl → Int → Int), Amt E V → (∀ r u, V r u = sumV r u (runC (0, []) (pms l))) → pkR (ppR (exP (pms l))) = E) := fun E V h1 h2 => sums_one (pms l) hpl h1 h2
    rw [t1] at hta
    have hpe : Hid (∀ M : List Ve, eds M = ppR (exP (pms l)) → ∀ v w', Ew w' [] v M → Calls Tryz.prog 48 #[v] w' fun e w'' => ∃ v' N, e = .returned (.tuple #[v', .int .i64 0]) ∧ eds N = pkR (ppR (exP (pms l))) ∧ OwnEr w'' w'.heap.size v' N ∧ Ext w' w'') := fun M hM v w' hv => by
      have hml : M.length ≤ 4096 := by have := congrArg List.length hM; rw [List.length_map] at this; omega
      have := packEdges_c M hml v w' hv
      rw [hM, t2] at this
      exact this
    obtain ⟨VA, vc, eu⟩ : ∃ A c, u = .slice A l.length c := by obtain ⟨A, c, e, -⟩ := mw_form hl; exact ⟨A, c, e⟩
    subst eu
    generalize pkR (ppR (exP (pms l))) = T at *
    generalize ppR (exP (pms l)) = R at *
    generalize runC (0, []) (pms l) = C at *
    clear t1 t2 t3 t4 hl hi hpl
    go_enter Tryz.func9, Tryz.ntmps9
    go_wp2_with ((go_at_call 37; (refine (hch.out _ Gn.ext).mono ?_; rintro ee w1 ⟨v1, M, rfl, ho1, hM, hX1⟩; obtain ⟨A1, c1, e1⟩ := ho1.form; subst e1; replace hM := hide hM; replace ho1 := hide ho1; replace hX1 := hide ((Gn.ext (w := w)).trans hX1))))
    have hMC : Hid (M.length = C.length) := by have := congrArg List.length hM.out; rw [List.length_map] at this; exact this
    have hMl : M.length ≤ 400 := by have := hMC.out; omega
    have hE0 := hide (own_zeroE (w1 := w) (W := w1) hX1.out)
    have hEX := hide ((Ext.refl w1).alloc (.cells #[] 115))
    clear hch
    go_loopg [4, 5] M.length (fun gh sv iv wr => ∃ (k : Nat) (N : List Ve), iv = .int .i64 k ∧ k + gh = M.length ∧ Hid (OwnEr wr w.heap.size sv N) ∧ Hid (Amt (eds N) (fun r u => sumV r u (C.take k))) ∧ Hid (Ext w1 wr))
    case atStart => exact ⟨0, [], rfl, by omega, hE0, Amt.nil, hEX⟩
    case round =>
      clear hE0 hEX
      obtain ⟨k, N, rfl, hk, hN, hAm, hX⟩ := hrel
      have hzX := hX1.out.size
      by_cases hlt : k < M.length
      · have hltI : (k : Int) < M.length := by omega
        obtain ⟨x, hx⟩ : ∃ x, M[k]? = some x := ⟨_, List.getElem?_eq_getElem hlt⟩
        obtain ⟨g, cap', PA, pc, e1, hgl, e2, q0, q1, q2, q3, q4, q5⟩ := own_chat (ho1.out.ext hX.out) hx
        cases e1
        haveI : In g wr := ⟨hgl⟩
        have hrx := ((ho1.out.ext hX.out).2 x (List.mem_of_getElem? hx)).rw
        have hcx : C[k]? = some x.2 := by rw [← hM.out, List.getElem?_map, hx]; rfl
        have hoc := hCo.out x.2 (List.mem_of_getElem? hcx)
        obtain ⟨f0, fA⟩ := Amt.one hoc
        have hnx : Hid (∀ E, adE (eds N) (fdR x.2.2.1 x.2.2.2.1 x.2.2.2.2) = 0 → E = adR (eds N) (fdR x.2.2.1 x.2.2.2.1 x.2.2.2.2) → Amt E (fun r u => sumV r u (C.take (k + 1)))) := fun E h0 hE => by
          have := Amt.add hAm.out fA h0
          rw [hE]
          refine ⟨this.1, fun r u hu => ?_⟩
          exact (this.2 r u hu).trans (by show sumV r u (C.take k) + chv r u x.2 = sumV r u (C.take (k + 1)); rw [take_one hcx, sumV_app]; simp [sumV])
        obtain ⟨xv, xs, xr, ⟨o1, o2⟩, n1, n2⟩ := x
        simp only at e2 q0 q1 q2 q3 q4 q5 hrx f0 hnx
        subst e2
        have hed := hide (fun w' (hx : Ext wr w') => foldEdges_c xs o1 o2 n1 n2 xr (.slice PA xr.length pc) w' (Sl.ext hrx hx))
        rw [f0] at hed
        generalize fdR xr (o1, o2) (n1, n2) = D at *
        have hadd : ∀ (M2 : List Ve), eds M2 = D → ∀ (a b : Value) (w' : World), Ew w' [] a N → Ew w' [] b M2 → Calls Tryz.prog 47 #[a, b] w' fun e w'' => ∃ v' K, e = .returned (.tuple #[v', .int .i64 (adE (eds N) D)]) ∧ eds K = adR (eds N) D ∧ OwnEr w'' w'.heap.size v' K ∧ Ext w' w'' := fun M2 hM2 a b w' h1 h2 => by
          have := edgeAdd_c N M2 a b w' h1 h2
          rw [hM2] at this
          exact this
        obtain ⟨B, hB⟩ : ∃ B, B = adE (eds N) D := ⟨_, rfl⟩
        obtain ⟨Y, hY⟩ : ∃ Y, Y = adR (eds N) D := ⟨_, rfl⟩
        rw [← hB, ← hY] at hadd
        rw [← hB, ← hY] at hnx
        replace hadd := hide hadd
        obtain ⟨NA, nc, eN⟩ := own_form hN.out.1
        subst eN
        clear hB hY f0 fA hoc hcx hx hrx
        by_cases b0 : B = 0
        · subst b0
          go_wp2_with (first | (go_at_call 44; (refine (hed.out _ Gn.ext).mono ?_; rintro ee w2 ⟨v2, M2, rfl, hM2, o2, x2⟩; obtain ⟨AM2, cM2, qM2⟩ := own_form o2.1; subst qM2; have X2 := hide ((Gn.ext (w := wr)).trans x2); replace hM2 := hide hM2; have hN2 := hide (hN.out.ext X2.out); skip)) | (go_at_call 47; (refine (hadd.out M2 hM2.out _ _ w2 hN2.out.ew o2.ew).mono ?_; rintro ee w3 ⟨v3, M3, rfl, hM3, o3, x3⟩; obtain ⟨AM3, cM3, qM3⟩ := own_form o3.1; subst qM3; have X3 := hide (X2.out.trans x3); replace hM3 := hide hM3; replace o3 := hide (o3.lower (Nat.le_trans (Nat.le_trans hzX hX.out.size) X2.out.size)); skip)))
          go_roundg (M.length - (k + 1))
          case measure => omega
          case rel => exact ⟨k + 1, M3, by go_num, by omega, o3, hnx.out _ (by first | exact trivial | rfl) hM3.out, hide (hX.out.trans X3.out)⟩
        · have b1 : (B != 0) = true := by rw [bne_iff_ne]; exact b0
          have b2 : (B == 0) = false := by simp [b0]
          replace b0 := hide b0
          clear hnx
          go_wp2_with (first | (go_at_call 44; (refine (hed.out _ Gn.ext).mono ?_; rintro ee w2 ⟨v2, M2, rfl, hM2, o2, x2⟩; obtain ⟨AM2, cM2, qM2⟩ := own_form o2.1; subst qM2; have X2 := hide ((Gn.ext (w := wr)).trans x2); replace hM2 := hide hM2; have hN2 := hide (hN.out.ext X2.out); skip)) | (go_at_call 47; (refine (hadd.out M2 hM2.out _ _ w2 hN2.out.ew o2.ew).mono ?_; rintro ee w3 ⟨v3, M3, rfl, hM3, o3, x3⟩; obtain ⟨AM3, cM3, qM3⟩ := own_form o3.1; subst qM3; have X3 := hide (X2.out.trans x3); replace hM3 := hide hM3; replace o3 := hide (o3.lower (Nat.le_trans (Nat.le_trans hzX hX.out.size) X2.out.size)); skip)) | (go_at_call 33; first | ((with_reducible refine seq_gw' (foldLive_c _) ?_); intro g8) | ((with_reducible refine seq_gw (foldLive_c _) ?_); intro g8)))
          go_returns
          exact ⟨by first | rfl | simp, (hX1.out.trans hX.out).trans (X3.out.trans g8.grown)⟩
      · have hke : k = C.length := by have := hMC.out; omega
        have hge : (M.length : Int) ≤ k := by omega
        have hNE : Hid (eds N = T) := by
          have h1 := hAm.out
          rw [hke, List.take_length] at h1
          exact (hsum.out _ _ h1 fun r u => rfl).symm
        obtain ⟨NA, nc, eN⟩ := own_form hN.out.1
        subst eN
        clear hke hAm hMC hMl hCo ho1 hM hCl hsum
        go_wp2_with (first | (go_at_call 42; (refine (hta.out _ (hX1.out.trans hX.out)).mono ?_; rintro ee w5 ⟨v5, M5, rfl, hM5, o5, x5⟩; obtain ⟨AM5, cM5, qM5⟩ := own_form o5.1; subst qM5; have X5 := hide ((hX1.out.trans hX.out).trans x5); have hP5 := hide (hpe.out M5 hM5); skip)) | (go_at_call 48; (refine (hP5.out _ w5 o5.ew).mono ?_; rintro ee w6 ⟨v6, M6, rfl, hM6, o6, x6⟩; obtain ⟨AM6, cM6, qM6⟩ := own_form o6.1; subst qM6; have X6 := hide (X5.out.trans x6); replace hM6 := hide hM6; skip)) | (go_at_call 33; first | ((with_reducible refine seq_gw' (foldLive_c _) ?_); intro g8) | ((with_reducible refine seq_gw (foldLive_c _) ?_); intro g8)) | (go_at_call 24; have hsm := refEdgeSame_c (o6.ew.ext g8.grown) ((hN.out.ext (x5.trans (x6.trans g8.grown))).ew); rw [hM6.out, hNE.out, decide_eq_true rfl] at hsm; first | ((with_reducible refine seq_gw' hsm ?_); intro g9; clear hsm) | ((with_reducible refine seq_gw hsm ?_); intro g9; clear hsm)))
        go_returns
        exact ⟨by first | rfl | simp, X6.out.trans (by first | exact g9.grown | exact g8.grown.trans g9.grown)⟩
  · have d1 : (400 : Int) < l.length := by omega
    obtain ⟨VA, vc, eu⟩ : ∃ A c, u = .slice A l.length c := by obtain ⟨A, c, e, -⟩ := mw_form hl; exact ⟨A, c, e⟩
    subst eu
    clear hl hi
    go_enter Tryz.func9, Tryz.ntmps9
    go_wp2_with (go_at_call 33; first | ((with_reducible refine seq_gw' (foldLive_c _) ?_); intro g0) | ((with_reducible refine seq_gw (foldLive_c _) ?_); intro g0))
    go_returns
    exact ⟨by first | rfl | simp, g0.grown⟩

theorem own : ownKnob Tryz.prog.godebug = none := by kernel_rfl
theorem laidOut : laidOutB Tryz.prog = true := by kernel_rfl
set_option maxRecDepth 100000 in
theorem lifted (os : Os) (started : os.Started) (H : Type) (enc : TypeId × Value → H) :
    ReturnsInHanded {} Tryz.checked os 9 .any (Rows.foldSumsSpec.pre6 enc Tryz.prog Tryz.f9 Rows.foldSumsRow.domain false) (Rows.foldSumsSpec.post enc Tryz.prog Tryz.f9 false true false false) := by
  refine returnsInHanded_of_change_sized (C := Tryz.checked) own started (by kernel_rfl) Tryz.func9
    (ChangeSpec.witness6 (enc := enc) (C := Tryz.checked) false ⟨#[], #[.slice none 0 0], []⟩ 8 (by kernel_rfl) (by kernel_rfl) (by kernel_rfl) (by kernel_rfl)) ?_
  intro W base args ds gs before hval0 hW hcnd hsz0 _
  have hsz : (DataW.weightsEach Tryz.prog (Tryz.f9.params.toList ++ Rows.foldSumsSpec.plain.varTypes Tryz.prog) (ds ++ gs)).all (· ≤ reachBytes) = true := hsz0
  clear hsz0
  have hval : ∀ (j : Nat) t v, Tryz.f9.params[j]? = some t → args[j]? = some v → Value.okWide Tryz.prog W .any base t v := hval0
  have hW' := hW
  obtain ⟨p, q, hA0, hV, rfl, hfz, hnd⟩ := hW
  have hA : DataW.TrodAll enc Tryz.prog W 0 (fun _ => true) true Tryz.f9.params.toList args.toList ds p := hA0
  rw [Tryz.params9] at hA hval hsz
  obtain ⟨v0, vs0, d0, ds0, p0, q0, hargs, rfl, rfl, h0, r0⟩ := trodAll_cons hA
  obtain ⟨rfl, rfl, rfl⟩ := trodAll_nil r0
  obtain rfl : args = #[v0] := by cases args; simp_all
  obtain ⟨rfl, rfl⟩ := trodVars_none hV
  have k0 := h0
  have lt0 : ∀ x ∈ p0, x.block < W.heap.size := by obtain ⟨m, hm⟩ := k0; exact DataW.trod_lt m _ _ _ hm
  obtain ⟨A0, n0, c0, rfl⟩ := okWide_slice Tryz.underlying53 (hval 0 53 v0 rfl rfl)
  have ⟨m0, hm0⟩ := h0
  obtain ⟨l, ll, hl, ql⟩ := open_msgs Tryz.underlying53 Tryz.underlying97 (by kernel_rfl) rfl rfl rfl rfl rfl (by kernel_rfl) (by kernel_rfl) (by kernel_rfl) (by kernel_rfl) (by kernel_rfl) Tryz.underlying95 Tryz.underlying3 Tryz.underlying3 Tryz.underlying3 Tryz.underlying24 Tryz.underlying113 (by kernel_rfl) rfl rfl rfl (by kernel_rfl) (by kernel_rfl) (by kernel_rfl) Tryz.underlying111 Tryz.underlying3 Tryz.underlying9 hm0
  have zl : l.length * 56 ≤ 140737488351232 := by rw [ll]; exact sized_elems hsz (j := 0) (t := 53) (e := 97) rfl rfl Tryz.underlying53 (by kernel_rfl)
  clear hA0 hval0
  refine (walk l ql _ W hl).mono fun e W' ⟨he, bel⟩ => ?_
  subst he
  exact ⟨_, rfl, _, _, _, [], _, [], hW', trodAll_mk1 (shut_bool Tryz.underlying4 _), (trodAll_cons_mk (Below.trod laidOut (by kernel_rfl) (of_decide_eq_true (by kernel_rfl)) k0 bel lt0) trodAll_mk0), rfl, bel.frame _, fun h => by cases h⟩

theorem over : Rows.foldSumsRow.holds Tryz.pinned (OpenSpec.ofChange Rows.foldSumsSpec) :=
  OpenClaim.holds_of_wide 9 Tryz.f9 rfl rfl rfl rfl rfl rfl rfl ⟨rfl, rfl, rfl, rfl, rfl⟩ rfl rfl rfl rfl rfl (by kernel_rfl) Tryz.func9 Facts.foldSums.closed
    (of_decide_eq_true (by kernel_rfl)) (by unfold Func.isWrapper; first | (rw [if_pos (by decide +kernel)]; kernel_rfl) | (rw [if_neg (by decide +kernel)]; exact ⟨rfl, rfl⟩))
    (fun os started H enc _ => lifted os started H enc)

theorem foldSums_holds : Rows.FoldSumsSaid := over
end Go.Proofs.YtobmjcehgpmfgaaGreat.foldSums
