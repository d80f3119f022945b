/-
  A helper of ours: no claim of its own. Layer 27 (snap): each row that is told is made a copy, in place, by the code.
-/
import Derived.Test.YtljkneajdndgjaaGreatSnaM
import Derived.Test.YtljkneajdndgjaaGreatStepR
import Derived.Test.YtljkneajdndgjaaGreatSnaD
set_option linter.unusedVariables false
set_option linter.unusedSimpArgs false
namespace Go.Proofs.YtljkneajdndgjaaGreat
open Go.RowKit
attribute [local go_sem] GW.cell GW.frozen In.eq_true In.le_true In.ne In.ne' In.ne_add In.ne_add' In.lt_add Upto.le_true Upto.le_add Upto.lt_add
theorem fst_get {P P' : List Vp} (h : P'.map Prod.fst = P.map Prod.fst) {k : Nat} {p p' : Vp} (hp : P[k]? = some p) (hp' : P'[k]? = some p') : p'.1 = p.1 := by
  have h1 : (P'.map Prod.fst)[k]? = (P.map Prod.fst)[k]? := by rw [h]
  rw [List.getElem?_map, List.getElem?_map, hp, hp'] at h1
  simpa using h1
theorem pts_get {P P' : List Vp} (h : pts P' = pts P) {k : Nat} {p p' : Vp} (hp : P[k]? = some p) (hp' : P'[k]? = some p') : p'.2.1 = p.2.1 ∧ cps p'.2.2 = cps p.2.2 := by
  have h1 : (pts P')[k]? = (pts P)[k]? := by rw [h]
  rw [List.getElem?_map, List.getElem?_map, hp, hp'] at h1
  simpa using h1
theorem pts_len {P P' : List Vp} (h : pts P' = pts P) : P'.length = P.length := by have := congrArg List.length h; simpa using this
theorem cps_len {L L' : List Vc} (h : cps L' = cps L) : L'.length = L.length := by have := congrArg List.length h; simpa using this
theorem cps_row {L L' : List Vc} (h : cps L' = cps L) {j : Nat} {c : Vc} (hc : L'[j]? = some c) : ∃ d ∈ L, d.2 = c.2 := by
  have h1 : (cps L')[j]? = (cps L)[j]? := by rw [h]
  rw [List.getElem?_map, List.getElem?_map, hc] at h1
  cases hd : L[j]? with
  | none => rw [hd] at h1; cases h1
  | some d => rw [hd] at h1; exact ⟨d, List.mem_of_getElem? hd, by simpa using h1.symm⟩
theorem own_ob {w : World} {base e size n cap g : Nat} {xs : List Value} (h : w.ownsRow base e size (.slice (some ⟨g, 0, none⟩) n cap) n xs) : ∃ vs, Ob w g e vs ∧ ∀ j : Nat, j < n * size → vs[j]? = xs[j]? := by
  rcases h.2 with ⟨e0, -⟩ | ⟨g', cap', cur, e1, hb, hg, hnc, hcm, hcs, ht⟩
  · cases e0
  · simp only [Value.slice.injEq, Option.some.injEq, Addr.mk.injEq] at e1
    obtain ⟨⟨rfl, -⟩, -, -⟩ := e1
    refine ⟨cur.toList, by unfold Ob; simpa using hg, fun j hj => ?_⟩
    rw [← ht, List.getElem?_take_of_lt hj]
set_option maxHeartbeats 8000000 in
set_option maxRecDepth 100000 in
theorem snOwn_c (P : List Vp) (B0 : Nat) (v : Value) (w : World) (h : OwnP w B0 v P) (hd : Dis P) (hl : P.length ≤ 4096) (hr : ∀ p ∈ P, p.2.2.length ≤ 4096 ∧ ∀ c ∈ p.2.2, c.2.1.length ≤ 8) : Calls Tryz.prog 74 #[v] w fun e w' => ∃ P', e = .returned v ∧ pts P' = pts P ∧ OwnP w' B0 v P' ∧ Fr (P.flatMap fun p => ob p.1) w w' := by
  obtain ⟨A, cap, rfl⟩ := h.form
  obtain ⟨ALL, hALL⟩ : ∃ ALL, ALL = P.flatMap fun p => ob p.1 := ⟨_, rfl⟩
  rw [← hALL]
  have h' := hide h
  have hr' := hide hr
  have hd' := hide hd
  replace hALL := hide hALL
  clear h hr hd
  go_enter Tryz.func74, Tryz.ntmps74
  go_wp2_with fail
  go_loopg [9] P.length (fun gh i wr => ∃ (k : Nat) (P' : List Vp), i = .int .i64 k ∧ k + gh = P.length ∧ Hid (OwnP wr B0 (.slice A P.length cap) P') ∧ Hid (pts P' = pts P ∧ P'.map Prod.fst = P.map Prod.fst) ∧ Hid (Fr ALL w wr))
  case atStart => exact ⟨0, P, by go_num, by omega, h', ⟨rfl, rfl⟩, Fr.refl _ _⟩
  case round =>
    generalize wr = W1 at *
    obtain ⟨k, P', rfl, hk, hO, hpt, hFr⟩ := hrel
    by_cases hlt : k < P.length
    · obtain ⟨p0, hp0⟩ : ∃ p, P[k]? = some p := ⟨_, List.getElem?_eq_getElem hlt⟩
      have hl' := pts_len hpt.out.1
      obtain ⟨⟨x, s, C⟩, hp⟩ : ∃ p, P'[k]? = some p := ⟨_, List.getElem?_eq_getElem (by rw [hl']; exact hlt)⟩
      have hOo := hO.out.1
      rw [hl'] at hOo
      obtain ⟨g, mc, eg, hgB, hgl⟩ := own_block2 hOo (by omega)
      simp only [Value.slice.injEq] at eg
      obtain ⟨rfl, -, rfl⟩ := eg
      have q0 := World.ownsRow.cellAt hOo (k * 3) (by omega)
      have q1 := World.ownsRow.cellAt hOo (k * 3 + 1) (by omega)
      have q2 := World.ownsRow.cellAt hOo (k * 3 + 2) (by omega)
      have e0 := pt_get P' k _ hp 0 _ rfl
      rw [Nat.add_zero] at e0
      rw [e0] at q0
      rw [pt_get P' k _ hp 1 _ rfl] at q1
      rw [pt_get P' k _ hp 2 _ rfl] at q2
      rw [show k * 3 + 2 = k * 3 + 1 + 1 by omega] at q2
      have hpm := hO.out.2 _ (List.mem_of_getElem? hp)
      simp only at hpm
      obtain ⟨CA, ccap, rfl⟩ := hpm.form
      simp only at q0 q1 q2
      obtain ⟨s1, s2⟩ := s
      simp only at q0 q1 q2
      haveI : In g W1 := ⟨hgl⟩
      have hx0 := hide (fst_get hpt.out.2 hp0 hp)
      have hcl := pts_get hpt.out.1 hp0 hp
      simp only at hcl
      have hCl : C.length ≤ 4096 := by rw [cps_len hcl.2]; exact (hr'.out _ (List.mem_of_getElem? hp0)).1
      have hC8 : Hid (∀ c ∈ C, c.2.1.length ≤ 8) := fun c hc => by
        obtain ⟨j, hj⟩ := List.getElem?_of_mem hc
        obtain ⟨d, hd, e⟩ := cps_row hcl.2 hj
        rw [← e]
        exact (hr'.out _ (List.mem_of_getElem? hp0)).2 d hd
      obtain ⟨pb, hpbe⟩ : ∃ pb, pb = W1.heap.size := ⟨_, rfl⟩
      have hpbn : Hid (Ob (W1.alloc (.cells #[.int .i64 s1, .int .i64 s2, .slice CA C.length ccap] 52)) pb 52 [.int .i64 s1, .int .i64 s2, .slice CA C.length ccap]) := by rw [hpbe]; exact Ob.new W1 _ [_, _, _]
      have hXp := hide ((Ext.refl W1).alloc (.cells #[.int .i64 s1, .int .i64 s2, .slice CA C.length ccap] 52))
      have hmemA : Hid (∀ b ∈ ob (Value.slice CA C.length ccap), b ∈ ALL) := fun b hb => by
        rw [hALL.out, List.mem_flatMap]
        refine ⟨p0, List.mem_of_getElem? hp0, ?_⟩
        rw [← hx0.out]
        exact hb
      obtain ⟨cn, hcn⟩ : ∃ cn, cn = C.length := ⟨_, rfl⟩
      have hp' := hide hp
      have hCown := hide hpm
      rw [← hcn] at q2 hpbn hXp hmemA hCown hCl hx0 hp'
      have hcn' := hide hcn
      clear hcn
      clear hOo e0 hpm hp hcl hl' hp0
      replace hpbe := hide hpbe
      go_wp2_with fail
      rw [← hpbe.out]
      go_loopg [16] cn (fun gh2 i2 wX => ∃ (j : Nat) (P'' : List Vp), i2 = .int .i64 j ∧ j + gh2 = cn ∧ Hid (OwnP wX B0 (.slice (some ⟨g, 0, none⟩) P.length cap) P'') ∧ Hid (pts P'' = pts P' ∧ P''.map Prod.fst = P'.map Prod.fst) ∧ Hid (Fr ALL W1 wX) ∧ Hid (Ob wX pb 52 [.int .i64 s1, .int .i64 s2, .slice CA cn ccap]))
      case atStart => exact ⟨0, P', by go_num, by omega, hO.out.ext hXp.out, ⟨rfl, rfl⟩, Fr.of_ext hXp.out, hpbn⟩
      case round =>
        generalize wr = W2 at *
        obtain ⟨j, P'', rfl, hj2, hO2, hpt2, hFr2, hpb⟩ := hrel
        by_cases hj : j < cn
        · have hl2 := pts_len hpt2.out.1
          obtain ⟨⟨x2, s2', C2⟩, hP2⟩ : ∃ p, P''[k]? = some p := ⟨_, List.getElem?_eq_getElem (by rw [hl2, pts_len hpt.out.1]; exact hlt)⟩
          have hx2 := fst_get hpt2.out.2 hp'.out hP2
          have hcp2 := (pts_get hpt2.out.1 hp'.out hP2).2
          simp only at hx2 hcp2
          subst hx2
          have hC2l : C2.length = cn := by rw [cps_len hcp2, hcn'.out]
          obtain ⟨⟨u, q, n⟩, hcj⟩ : ∃ c, C2[j]? = some c := ⟨_, List.getElem?_eq_getElem (by omega)⟩
          have hCo := hO2.out.2 _ (List.mem_of_getElem? hP2)
          simp only at hCo
          have hCo1 := hCo.1
          rw [hC2l] at hCo1
          obtain ⟨g2, cc2, eg2, hg2B, hg2l⟩ := own_block2 hCo1 (by omega)
          simp only [Value.slice.injEq] at eg2
          obtain ⟨rfl, -, rfl⟩ := eg2
          obtain ⟨vs, hgo, hvs⟩ := own_ob hCo1
          have hcu0 : vs[j * 2]? = some u := by rw [hvs _ (by omega)]; have := cc_get C2 j _ hcj 0 u rfl; rwa [Nat.add_zero] at this
          have hcn1 : vs[j * 2 + 1]? = some (.int .i64 n) := by rw [hvs _ (by omega)]; exact cc_get C2 j _ hcj 1 _ rfl
          have hru := hCo.2 _ (List.mem_of_getElem? hcj)
          simp only at hru
          obtain ⟨RA, rcap, rfl⟩ := own_form hru
          have hq8 : q.length ≤ 8 := by
            obtain ⟨d, hd, e⟩ := cps_row hcp2 hcj
            have := hC8.out d hd
            rw [e] at this
            exact this
          have k0 := hgo.cell (j * 2) hcu0
          have k1 := hgo.cell (j * 2 + 1) hcn1
          haveI : In g2 W2 := ⟨hgo.lt⟩
          have hpg := hide (show pb ≠ g2 from Ob.ne hpb.out hgo (by decide))
          have hgm := hide (hmemA.out g2 (Option.mem_toList.2 rfl))
          have hD := hide (hd'.out.same (hpt2.out.2.trans hpt.out.2))
          have hXa := hide ((Ext.refl W2).alloc (.cells #[.slice RA q.length rcap, .int .i64 n] 56))
          have z2 := hide ((hpb.out.alloc (.cells #[.slice RA q.length rcap, .int .i64 n] 56)).cell 2 rfl)
          have z0 := hide ((Ob.new W2 56 [.slice RA q.length rcap, .int .i64 n]).cell 0 rfl)
          have hrw := hide (fun w' (hX : Ext (W2.alloc (.cells #[.slice RA q.length rcap, .int .i64 n] 56)) w') => (Sl.own (S := []) (own_ext hru (hXa.out.trans hX)) (by simp) : Rw w' [] (.slice RA q.length rcap) q))
          have y2 := hpb.out.cell 2 rfl
          haveI : In pb W2 := ⟨hpb.out.lt⟩
          have hcu := hide hcu0
          replace hgo := hide hgo
          replace hP2 := hide hP2
          replace hcj := hide hcj
          clear hl2 hcp2 hC2l hCo hCo1 hvs hcu0 hcn1 hru hg2B hg2l
          go_wp2_with fail
          refine wp_region_list_tail 8 [(.is ((.pointer (some ⟨pb, 2, none⟩)))), (.is ((.slice (some ⟨g2, 0, none⟩) cn ccap))), (.is ((.int .i64 j))), (.is ((.pointer (some ⟨W2.heap.size, 0, none⟩)))), (.is ((.slice RA q.length rcap))), (.st (fun v w => OwnR w 0 v q) (fun _ _ _ h k => own_ext h k)), (.is ((.pointer (some ⟨g2, j * 2, none⟩)))), (.is ((.pointer (some ⟨g2, j * 2, none⟩))))] (by kernel_rfl) (by kernel_rfl) (by kernel_rfl) (by kernel_rfl) (by kernel_rfl) (by kernel_rfl) (by kernel_rfl) ?_ ?_
          · refine ⟨?_, ?_, ?_, ?_, ?_, ?_, ?_, ?_, trivial⟩
            · intro b w' h hE
              have f4 : b.tmps.getD 4 undef = (.pointer (some ⟨pb, 0, none⟩)) := hE 4 (of_decide_eq_true (by kernel_rfl))
              exact good_field (wanted_none rfl) rfl f4 (by simp [go_sem]) rfl
            · intro b w' h hE
              have f21 : b.tmps.getD 21 undef = (.pointer (some ⟨pb, 2, none⟩)) := h.dep 0 _ 21 (by kernel_rfl) rfl rfl
              have c0 := cell_later h.ext z2.out
              exact good_load (wanted_none rfl) rfl f21 (by simp [go_sem, c0]) rfl
            · intro b w' h hE
              have f5 : b.tmps.getD 5 undef = (.int .i64 j) := hE 5 (of_decide_eq_true (by kernel_rfl))
              exact good_move (wanted_none rfl) rfl f5
            · intro b w' h hE
              have f6 : b.tmps.getD 6 undef = (.pointer (some ⟨W2.heap.size, 0, none⟩)) := hE 6 (of_decide_eq_true (by kernel_rfl))
              exact good_field (wanted_none rfl) rfl f6 (by simp [go_sem]) rfl
            · intro b w' h hE
              have f24 : b.tmps.getD 24 undef = (.pointer (some ⟨W2.heap.size, 0, none⟩)) := h.dep 3 _ 24 (by kernel_rfl) rfl rfl
              have c0 := cell_later h.ext z0.out
              exact good_load (wanted_none rfl) rfl f24 (by simp [go_sem, c0]) rfl
            · intro b w' h hE
              have f25 : b.tmps.getD 25 undef = (.slice RA q.length rcap) := h.dep 4 _ 25 (by kernel_rfl) rfl rfl
              have g25 : b.tmps[25]?.getD undef = (.slice RA q.length rcap) := by rw [← Array.getD_eq_getD_getElem?]; exact f25
              refine good_call (wanted_none rfl) rfl (enters Tryz.func120 (by kernel_rfl) rfl) ?_
              rw [show (#[.tmp 25] : Array Operand).map b.eval = #[.slice RA q.length rcap] by simp [Act.eval, g25]]
              exact (rowClone_c q _ w' (hrw.out w' h.ext) (by omega)).mono fun e w1 ⟨v1, he, ho, hx⟩ => ⟨v1, he, own_base ho (Nat.zero_le _), hx⟩
            · intro b w' h hE
              have f22 : b.tmps.getD 22 undef = (.slice (some ⟨g2, 0, none⟩) cn ccap) := h.dep 1 _ 22 (by kernel_rfl) rfl rfl
              have f23 : b.tmps.getD 23 undef = (.int .i64 j) := h.dep 2 _ 23 (by kernel_rfl) rfl rfl
              exact good_index (wanted_none rfl) rfl f22 f23 (by simp [go_sem, hj]) rfl
            · intro b w' h hE
              have f27 : b.tmps.getD 27 undef = (.pointer (some ⟨g2, j * 2, none⟩)) := h.dep 6 _ 27 (by kernel_rfl) rfl rfl
              exact good_field (wanted_none rfl) rfl f27 (by simp [go_sem]) rfl
          · intro b w2 hX2 hd hz he' hf
            have e21 : b.tmps.getD 21 undef = (.pointer (some ⟨pb, 2, none⟩)) := hf 0 _ 21 (by omega) rfl rfl
            have e22 : b.tmps.getD 22 undef = (.slice (some ⟨g2, 0, none⟩) cn ccap) := hf 1 _ 22 (by omega) rfl rfl
            have e23 : b.tmps.getD 23 undef = (.int .i64 j) := hf 2 _ 23 (by omega) rfl rfl
            have e24 : b.tmps.getD 24 undef = (.pointer (some ⟨W2.heap.size, 0, none⟩)) := hf 3 _ 24 (by omega) rfl rfl
            have e25 : b.tmps.getD 25 undef = (.slice RA q.length rcap) := hf 4 _ 25 (by omega) rfl rfl
            have f9 : OwnR w2 0 (b.tmps.getD 26 undef) q := hf 5 _ 26 (by omega) rfl rfl
            have e27 : b.tmps.getD 27 undef = (.pointer (some ⟨g2, j * 2, none⟩)) := hf 6 _ 27 (by omega) rfl rfl
            have e28 : b.tmps.getD 28 undef = (.pointer (some ⟨g2, j * 2, none⟩)) := hf 7 _ 28 (by omega) rfl rfl
            have e := frame_puts hd hz he'
            obtain ⟨X, hXx⟩ : ∃ X : Nat → Value, ∀ d, b.tmps.getD d undef = X d := ⟨_, fun _ => rfl⟩
            rw [hXx] at e21 e22 e23 e24 e25 e27 e28 f9
            obtain ⟨A26, c26, q26⟩ := own_form f9
            rw [show dstsOf _ = [21, 22, 23, 24, 25, 26, 27, 28] from rfl] at e
            simp only [List.foldl_cons, List.foldl_nil, hXx, Act.put, List.setIfInBounds_toArray, List.set_cons_succ, List.set_cons_zero] at e
            rw [e21, e22, e23, e24, e25, e27, e28, q26] at e
            rw [q26] at f9
            replace f9 := hide f9
            clear hf he' hz hd hXx e21 e22 e23 e24 e25 e27 e28 q26
            subst e
            have hzw := hX2.size
            simp only [List.drop_succ_cons, List.drop_zero]
            have hO5 := hide ((hO2.out.ext hXa.out).ext hX2)
            have kg := (hgo.out.ext hXa.out).ext hX2
            have kgl := kg.lt
            haveI : In g2 w2 := ⟨kgl⟩
            have hfz := kg.free (j * 2)
            have hset := hide (hO5.out.set hD.out hP2.out rfl hcj.out f9.out)
            have hps := hide (pts_set hP2.out hcj.out (.slice A26 q.length c26))
            have hFs := hide (((Fr.of_ext (S := ALL) (hXa.out.trans hX2)).setCell ⟨g2, j * 2, none⟩ (.slice A26 q.length c26) (.inl hgm.out)))
            have hpb5 := hide (((hpb.out.ext hXa.out).ext hX2).far ⟨g2, j * 2, none⟩ (.slice A26 q.length c26) hpg.out)
            have hqc := kg.cell (j * 2) hcu.out
            clear kg f9
            go_wp2_with fail
            go_roundg (cn - (j + 1))
            case measure => omega
            case rel => exact ⟨j + 1, _, by go_num, by omega, hset.out, ⟨hps.out.1.trans hpt2.out.1, hps.out.2.trans hpt2.out.2⟩, hFr2.out.trans hFs.out, hpb5.out⟩
        · have hjn : j = cn := by omega
          go_wp2_with fail
          go_roundg (P.length - (k + 1))
          case measure => omega
          case rel => exact ⟨k + 1, P'', by go_num, by omega, hO2.out, ⟨hpt2.out.1.trans hpt.out.1, hpt2.out.2.trans hpt.out.2⟩, hFr.out.trans hFr2.out⟩
    · have hkP : k = P.length := by omega
      go_wp2_with fail
      go_returns
      exact ⟨P', rfl, hpt.out.1, hO.out, hFr.out⟩
end Go.Proofs.YtljkneajdndgjaaGreat
