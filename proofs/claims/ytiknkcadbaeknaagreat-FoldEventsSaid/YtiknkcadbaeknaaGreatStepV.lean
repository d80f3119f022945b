/-
  A helper of ours: no claim of its own. Layer 9 (step): jumps put together, by the code.
-/
import Derived.Test.YtiknkcadbaeknaaGreatStepO
import Derived.Lib.SliceRun
set_option linter.unusedVariables false
set_option linter.unusedSimpArgs false
namespace Go.Proofs.YtiknkcadbaeknaaGreat
open Go.RowKit
attribute [local go_sem] GW.cell GW.frozen In.eq_true In.le_true In.ne In.ne' In.ne_add In.ne_add' In.lt_add Upto.le_true Upto.le_add Upto.lt_add
theorem run_clear_cells {P : Program} (w : World) (t e ty : TypeId) (z : Value) (zs : List Value) (ht : P.underlying t = some (.slice e)) (hv : ∀ w, (zeroValue e).run P w = .ok z w) (b o n c : Nat) (hn : 0 < n) (hz : (Builtin.zeroCells z.cells n).toList = zs) (h1 : ∀ v ∈ zs, v.oneCell' = true)
    (hc : ∀ j, j < zs.length → (w.cell? ⟨b, o + j, none⟩).isSome = true) (hf : ∀ j, j < zs.length → w.frozen? ⟨b, o + j, none⟩ = false) :
    (Builtin.clear_ #[t] ty #[.slice (some ⟨b, o, none⟩) n c]).run P w = .ok (.tuple #[]) (w.setCells b o zs) := by
  have hst := run_storeCells_cells (P := P) b o zs 0 w (by simpa using hc) (by simpa using hf) h1
  simp only [Nat.add_zero] at hst
  obtain ⟨m, rfl⟩ : ∃ m, n = m + 1 := ⟨n - 1, by omega⟩
  simp [Builtin.clear_, run_underlying ht, hv, hz, hst]
theorem own_take {w : World} {B e : Nat} {g n i cap size : Nat} {xs : List Value} (h : w.ownsRow B e size (.slice (some ⟨g, 0, none⟩) n cap) n xs) (hi : i ≤ n) : w.ownsRow B e size (.slice (some ⟨g, 0, none⟩) i cap) i (xs.take (i * size)) := by
  rcases h.2 with ⟨h', _⟩ | ⟨g', cap', cur, h', hb, hg, hnc, hcm, hcs, htake⟩
  · simp at h'
  · simp only [Value.slice.injEq, Option.some.injEq, Addr.mk.injEq, and_true, true_and] at h'
    obtain ⟨rfl, rfl⟩ := h'
    have hm : i * size ≤ n * size := Nat.mul_le_mul_right _ hi
    refine ⟨by rw [List.length_take, h.1, Nat.min_eq_left hm], .inr ⟨g, cap, cur, rfl, hb, hg, by omega, hcm, hcs, ?_⟩⟩
    rw [← htake, List.take_take, Nat.min_eq_left hm]
theorem own_setCells {w0 : World} {B e : Nat} {g i cap size : Nat} {xs : List Value} : ∀ (vs : List Value) (o : Nat) (w : World), w.ownsRow B e size (.slice (some ⟨g, 0, none⟩) i cap) i xs → i * size ≤ o → (w.setCells g o vs).ownsRow B e size (.slice (some ⟨g, 0, none⟩) i cap) i xs
  | [], _, _, h, _ => h
  | v :: r, o, w, h, ho => by
    have h1 := (World.ownsRow.stored h o v).1
    rw [List.set_eq_of_length_le (by rw [h.1]; exact ho)] at h1
    exact own_setCells (w0 := w0) r (o + 1) _ h1 (by omega)
theorem ext_setCells {W : World} {g : Nat} (hg : W.heap.size ≤ g) : ∀ (vs : List Value) (o : Nat) (w : World), Ext W w → Ext W (w.setCells g o vs)
  | [], _, _, h => h
  | v :: r, o, w, h => ext_setCells hg r (o + 1) _ (h.setCell hg v)
def filt (l : List Jp) : List Jp := l.filter fun j => !dropJ j
theorem filt_next {l : List Jp} {k : Nat} {x : Jp} (hx : l[k]? = some x) : filt (l.take (k + 1)) = if dropJ x = true then filt (l.take k) else filt (l.take k) ++ [x] := by
  unfold filt
  rw [take_snoc hx, List.filter_append]
  cases h : dropJ x <;> simp [h]
theorem idx_none : ∀ (l : List Jp) (k : Nat), jidxP dropJ k l = -1 → filt l = l
  | [], _, _ => rfl
  | x :: r, k, h => by
    unfold jidxP at h
    cases hx : dropJ x
    · rw [hx] at h
      have := idx_none r (k + 1) (by simpa using h)
      unfold filt at this ⊢
      rw [List.filter_cons, hx]
      simp only [Bool.not_false, if_true]
      rw [this]
    · rw [hx, if_pos rfl] at h; omega
theorem idx_some : ∀ (l : List Jp) (k : Nat), jidxP dropJ k l ≠ -1 → ∃ i, jidxP dropJ k l = ((k + i : Nat) : Int) ∧ i < l.length ∧ filt (l.take i) = l.take i ∧ ∃ x, l[i]? = some x ∧ dropJ x = true
  | [], _, h => absurd rfl h
  | x :: r, k, h => by
    unfold jidxP at h ⊢
    cases hx : dropJ x
    · rw [hx] at h
      simp only [Bool.false_eq_true, if_false] at h ⊢
      obtain ⟨i, h1, h2, h3, h4⟩ := idx_some r (k + 1) h
      refine ⟨i + 1, by rw [h1]; congr 1; omega, by simp; omega, ?_, by simpa using h4⟩
      rw [List.take_succ_cons]
      unfold filt at h3 ⊢
      rw [List.filter_cons, hx]
      simp only [Bool.not_false, if_true]
      rw [h3]
    · exact ⟨0, by simp, by simp, rfl, x, rfl, hx⟩
set_option maxHeartbeats 8000000 in
set_option maxRecDepth 100000 in
theorem delete_c (W0 : World) (l : List Jp) (v : Value) (w : World) (h : OwnJ w W0.heap.size v l) (hX0 : Ext W0 w) (hn : l.length ≤ 8192) : Calls Tryz.prog 197 #[v, .func (.func 199) #[] #[]] w fun e w' =>
    ∃ v', e = .returned v' ∧ OwnJ w' W0.heap.size v' (filt l) ∧ Ext W0 w' := by
  have hidx := hide (indexDrop_c l v w (own_jw (S := []) h (by simp)))
  by_cases hi : jidxP dropJ 0 l = -1
  · rw [hi] at hidx
    have hf := hide (idx_none l 0 hi)
    obtain ⟨A, cap, rfl⟩ := own_form h
    replace h := hide h
    clear hi
    go_enter Tryz.func197, Tryz.ntmps197
    go_wp2_with (go_at_call 253; (with_reducible refine seq_gw hidx.out ?_); intro g)
    go_returns
    rw [hf.out]
    exact ⟨_, rfl, own_ext h.out g.grown, hX0.trans g.grown⟩
  · obtain ⟨i0, h1, h2, h3, x0, h4, h5⟩ := idx_some l 0 hi
    rw [h1, Nat.zero_add] at hidx
    have hne : l ≠ [] := by intro e; rw [e] at h2; simp at h2
    obtain ⟨g, cap, rfl, hgB, hgl⟩ := own_block h hne
    have hstart : Hid (filt (l.take (i0 + 1)) = l.take i0) := by show _ = _; rw [filt_next h4, if_pos h5, h3]
    have hnI : (l.length : Int) ≤ 8192 := by omega
    have hi0I : ¬ (i0 : Int) = -1 := by omega
    have hi0b : ((i0 : Int) == -1) = false := by rw [beq_eq_false_iff_ne]; omega
    obtain ⟨R, hR⟩ : ∃ R, R = filt l := ⟨_, rfl⟩
    rw [← hR]
    have hcap : l.length ≤ cap ∧ cap ≤ 9223372036854775807 := by
      rcases h.2 with ⟨h', _⟩ | ⟨g', cap', cur, h', hb, hg, hnc, hcm, hcs, htake⟩
      · simp at h'
      · simp only [Value.slice.injEq] at h'
        obtain ⟨_, _, rfl⟩ := h'
        unfold maxLen at hcm
        exact ⟨hnc, by omega⟩
    obtain ⟨hc1, hc2⟩ := hcap
    replace hR := hide hR
    replace h := hide h
    clear hi h1 h3 h4 h5 hne
    obtain ⟨n, hln⟩ : ∃ n, n = l.length := ⟨_, rfl⟩
    have hlnh := hide hln
    rw [← hln] at hidx h2 hnI hc1 ⊢
    clear hln hn
    go_enter Tryz.func197, Tryz.ntmps197
    go_wp2_with (go_at_call 253; (with_reducible refine seq_gw hidx.out ?_); intro q)
    have hstartO : Hid (∃ _ : Unit, q.val.ownsRow W0.heap.size 195 2 (.slice (some ⟨g, 0, none⟩) n cap) n (ps l)) := ⟨(), by have := own_ext h.out q.grown; unfold OwnJ at this; rw [← hlnh.out] at this; exact this⟩
    go_loopg [5, 6] (n - (i0 + 1)) (fun gh u i wr => ∃ (j k : Nat) (cur : List Jp), u = .int .i64 j ∧ i = .int .i64 k ∧ k + gh = n ∧ j < k ∧ Hid (cur.length = n) ∧ Hid (wr.ownsRow W0.heap.size 195 2 (.slice (some ⟨g, 0, none⟩) n cap) n (ps cur)) ∧ Hid (cur.take j = filt (l.take k)) ∧ Hid (cur.drop k = l.drop k) ∧ Ext W0 wr)
    case atStart =>
      obtain ⟨_, ho0⟩ := hstartO.out
      exact ⟨i0, i0 + 1, l, rfl, by go_num, by omega, by omega, hlnh.out.symm, ho0, hstart.out.symm, rfl, hX0.trans q.grown⟩
    case round =>
      clear hidx hstartO
      obtain ⟨j, k, cur, rfl, rfl, hk, hjk, hcl, ho, htk, hdr, hX⟩ := hrel
      have hgw : g < wr.heap.size := (World.ownsRow.lt ho.out g rfl).2
      haveI : In g wr := ⟨hgw⟩
      by_cases hlt : k < n
      · obtain ⟨x, hx⟩ : ∃ x, l[k]? = some x := ⟨_, List.getElem?_eq_getElem (by have := hlnh.out; omega)⟩
        have hcx : cur[k]? = some x := by
          have e1 : (cur.drop k)[0]? = (l.drop k)[0]? := by rw [hdr.out]
          simpa [hx] using e1
        obtain ⟨q0, q1⟩ := ps_get cur k x hcx
        have y0 := (World.ownsRow.cellAt ho.out (k * 2) (by omega)).trans q0
        have y1 := (World.ownsRow.cellAt ho.out (k * 2 + 1) (by omega)).trans q1
        have jl : j < (ps cur).length := by rw [ps_length, hcl.out]; omega
        have s0 : ∃ u, wr.cell? ⟨g, j * 2, none⟩ = some u := ⟨_, (World.ownsRow.cellAt ho.out (j * 2) (by omega)).trans (List.getElem?_eq_getElem (by rw [ps_length, hcl.out]; omega))⟩
        have s1 : ∃ u, wr.cell? ⟨g, j * 2 + 1, none⟩ = some u := ⟨_, (World.ownsRow.cellAt ho.out (j * 2 + 1) (by omega)).trans (List.getElem?_eq_getElem (by rw [ps_length, hcl.out]; omega))⟩
        obtain ⟨u0, s0⟩ := s0
        obtain ⟨u1, s1⟩ := s1
        have f0 := World.ownsRow.frozenAt ho.out (j * 2)
        have f1 := World.ownsRow.frozenAt ho.out (j * 2 + 1)
        have hdel := hide (fun w => hasNoEffect_c x w)
        have hft := filt_next hx
        have hdr' : Hid (cur.drop (k + 1) = l.drop (k + 1)) := by
          show _ = _
          have := hdr.out
          rw [jdrop_cons hx, jdrop_cons hcx] at this
          exact (List.cons.inj this).2
        obtain ⟨xp, xn⟩ := x
        simp only at y0 y1
        have hjI : (j : Int) < n := by omega
        clear jl q0 q1 hx
        cases hd : dropJ (xp, xn)
        · rw [hd] at hdel hft
          rw [if_neg (by decide)] at hft
          replace hft := hide hft
          replace hd := hide hd
          clear hcx
          go_wp2_with (go_at_call 199; (with_reducible refine seq_gw (hdel.out _) ?_); intro q7)
          go_roundg (n - (k + 1))
          case measure => omega
          case rel =>
            have hX7 := ((Ext.refl wr).alloc (.cells #[.int .i64 xp, .int .i64 xn] 195)).trans q7.grown
            have o1 := (World.ownsRow.stored (own_ext ho.out hX7) (j * 2) (.int .i64 xp)).1
            have o2 := (World.ownsRow.stored o1 (j * 2 + 1) (.int .i64 xn)).1
            rw [← ps_set cur j (xp, xn) (by rw [hcl.out]; omega)] at o2
            refine ⟨j + 1, k + 1, cur.set j (xp, xn), by go_num, by go_num, by omega, by omega, by rw [List.length_set]; exact hcl.out, o2, ?_, ?_, ((hX.trans hX7).setCell hgB _).setCell hgB _⟩
            · show _ = _
              rw [hft.out, ← htk.out, List.take_add_one, List.take_set_of_le (Nat.le_refl _)]
              simp [show j < cur.length by rw [hcl.out]; omega]
            · show _ = _
              rw [List.drop_set_of_lt (by omega)]
              exact hdr'.out
        · rw [hd] at hdel hft
          rw [if_pos rfl] at hft
          replace hft := hide hft
          replace hd := hide hd
          clear hcx s0 s1 f0 f1
          go_wp2_with (go_at_call 199; (with_reducible refine seq_gw (hdel.out _) ?_); intro q7)
          go_roundg (n - (k + 1))
          case measure => omega
          case rel =>
            have hX7 := ((Ext.refl wr).alloc (.cells #[.int .i64 xp, .int .i64 xn] 195)).trans q7.grown
            exact ⟨j, k + 1, cur, rfl, by go_num, by omega, by omega, hcl, own_ext ho.out hX7, by show _ = _; rw [hft.out]; exact htk.out, hdr', hX.trans hX7⟩
      · have hk' : k = n := by omega
        have hge : (n : Int) ≤ k := by omega
        have hR2 : Hid (R = cur.take j) := by show _ = _; have := htk.out; rw [hk', hlnh.out, List.take_length] at this; rw [hR.out]; exact this.symm
        have hjn : j < n := by omega
        have hjI : (j : Int) ≤ n := by omega
        have hcl2 : ∀ ty, (Builtin.clear_ #[138] ty #[.slice (some ⟨g, j * 2, none⟩) (n - j) (cap - j)]).run Tryz.prog wr = .ok (.tuple #[]) (wr.setCells g (j * 2) (Builtin.zeroCells (Value.agg #[.int .i64 0, .int .i64 0]).cells (n - j)).toList) := fun ty => by
          have hzl : (Builtin.zeroCells (Value.agg #[.int .i64 0, .int .i64 0]).cells (n - j)).toList.length = (n - j) * 2 := by rw [Array.length_toList, size_zeroCells]; rfl
          refine run_clear_cells wr _ _ ty _ _ Tryz.underlying138 Tryz.zeroValue195 g (j * 2) (n - j) (cap - j) (by omega) rfl ?_ (fun i hi => ?_) (fun i hi => ?_)
          · intro u hu
            have hu' := Array.mem_toList_iff.1 hu
            have hall : ∀ u ∈ Builtin.zeroCells (Value.agg #[.int .i64 0, .int .i64 0]).cells (n - j), u = .int .i64 0 := by
              intro u hu
              simp only [Builtin.zeroCells] at hu
              first
                | (simp at hu; obtain ⟨i, _, rfl⟩ := hu; rcases Nat.mod_two_eq_zero_or_one i with e | e <;> simp [Value.cells, e])
                | skip
            rw [hall u hu']; rfl
          · rw [hzl] at hi
            rw [World.ownsRow.cellAt ho.out (j * 2 + i) (by omega), List.getElem?_eq_getElem (by rw [ps_length, hcl.out]; omega)]; rfl
          · exact World.ownsRow.frozenAt ho.out _
        have hown : Hid (∃ _ : Unit, (wr.setCells g (j * 2) (Builtin.zeroCells (Value.agg #[.int .i64 0, .int .i64 0]).cells (n - j)).toList).ownsRow W0.heap.size 195 2 (.slice (some ⟨g, 0, none⟩) j cap) j (ps (cur.take j))) := ⟨(), by
          have := own_take ho.out (i := j) (by omega)
          rw [ps_take] at this
          exact own_setCells (w0 := w) _ _ _ this (Nat.le_refl _)⟩
        have hxx : Hid (Ext W0 (wr.setCells g (j * 2) (Builtin.zeroCells (Value.agg #[.int .i64 0, .int .i64 0]).cells (n - j)).toList)) := ext_setCells hgB _ _ _ hX
        generalize wr.setCells g (j * 2) (Builtin.zeroCells (Value.agg #[.int .i64 0, .int .i64 0]).cells (n - j)).toList = wz at *
        have hjl : Hid ((cur.take j).length = j) := by show _ = _; rw [List.length_take, hcl.out]; omega
        have hjc : j < cap := by omega
        have hjcI : ¬ j = cap := by omega
        replace hk' := hide hk'
        clear hcl htk hdr hR ho
        go_wp2_with fail
        go_returns
        rw [hR2.out]
        obtain ⟨_, ho9⟩ := hown.out
        refine ⟨_, rfl, ?_, hxx.out⟩
        unfold OwnJ
        rw [hjl.out]
        exact ho9
end Go.Proofs.YtiknkcadbaeknaaGreat
set_option linter.unusedVariables false
set_option linter.unusedSimpArgs false
namespace Go.Proofs.YtiknkcadbaeknaaGreat
open Go.RowKit
attribute [local go_sem] GW.cell GW.frozen In.eq_true In.le_true In.ne In.ne' In.ne_add In.ne_add' In.lt_add Upto.le_true Upto.le_add Upto.lt_add
theorem any_no {l : List Jp} {p : Jp → Bool} (h : l.any p = false) : ∀ j ∈ l, p j = false := by
  intro j hj
  have := List.any_eq_false.1 h j hj
  simpa using this
theorem net_ok {l : List Jp} (h : l.any tooJ = false) : ∀ j ∈ l, -1048576 ≤ j.2 ∧ j.2 ≤ 1048576 := fun j hj => by
  have := any_no h j hj; unfold tooJ at this; rw [decide_eq_false_iff_not] at this; omega
set_option maxHeartbeats 4000000 in
set_option maxRecDepth 100000 in
theorem stepNorm_c (l : List Jp) (hn : l.length ≤ 8192) (v : Value) (w : World) (h : Jw w [] v l) : Calls Tryz.prog 141 #[v] w fun e w' => ∃ v', e = .returned (.tuple #[v', .int .i64 (nmE l)]) ∧ OwnJ w' w.heap.size v' (nmR l) ∧ Ext w w' := by
  have hc1 := hide (fun w' (hX : Ext w w') => containsToo_c l v w' (Sl.ext h hX))
  have hc2 := hide (fun w' (hX : Ext w w') => containsNow_c l v w' (Sl.ext h hX))
  have hX0 := hide (Ext.refl w)
  obtain ⟨E, hE⟩ : ∃ E, E = nmE l := ⟨_, rfl⟩
  obtain ⟨R, hR⟩ : ∃ R, R = nmR l := ⟨_, rfl⟩
  rw [← hE, ← hR]
  cases ht : l.any tooJ
  · rw [ht] at hc1
    cases hw : l.any nowJ
    · rw [hw] at hc2
      have hEF : Hid (E = full (nmL l)) := by show _ = _; rw [hE]; unfold nmE; rw [ht, hw]; rfl
      have hRF : Hid (R = kept (nmL l)) := by
        show _ = _
        rw [hR]; unfold nmR nmE; rw [ht, hw]
        unfold full kept
        cases mayJ (nmL l) <;> rfl
      have hcl := hide (fun w' (hX : Ext w w') => jmpClone_c l v w' (Sl.ext h hX) (by omega))
      have hnet := hide (net_ok ht)
      have hnow := hide (any_no hw)
      obtain ⟨A, cap, rfl, -, -, -⟩ := jw_form h
      replace hn := hide hn
      clear hE hR h ht hw
      go_enter Tryz.func141, Tryz.ntmps141
      go_wp2_with (first
        | (go_at_call 192; (with_reducible refine seq_gw (hc1.out _ hX0.out) ?_); intro g)
        | (go_at_call 192; (with_reducible refine seq_gw' (hc2.out _ g.grown) ?_); intro g2)
        | (go_at_call 194; refine (hcl.out _ g2.grown).mono ?_; rintro ee w3 ⟨v3, rfl, ho3, hx3⟩; have hX3 := hide (g2.grown.trans hx3); have hsz := GW.size g2; replace ho3 := hide (own_base ho3 hsz); obtain ⟨A3, cap3, rfl⟩ := own_form ho3.out)
        | (go_at_call 195; refine (sort_c w l _ w3 ho3.out hX3.out hn.out).mono ?_; rintro ee w4 ⟨rfl, s, hp, hs, ho4, hX4⟩; have hpl := hp.length_eq; have hps := hide hp; have hss := hide hs; replace hX4 := hide hX4; replace ho4 := hide ho4; have hls := hide (show s.length ≤ 8192 by rw [hpl]; exact hn.out); replace hpl := hide hpl)
        | (go_at_call 198; refine (addedUp_c s hss.out (fun j hj => hnet.out j (hps.out.mem_iff.1 hj)) hls.out _ w4 (by have := own_jw (S := []) ho4.out (by simp); exact this)).mono ?_; rintro ee w5 ⟨v5, rfl, ho5, hx5⟩; have hX5 := hide (hX4.out.trans hx5); have hsz5 := hX4.out.size; replace ho5 := hide (own_base ho5 hsz5); have hla := hide (show (addup s).length ≤ 8192 from Nat.le_trans (addup_inv 1048576 (by omega) s.length s rfl hss.out (fun j hj => hnet.out j (hps.out.mem_iff.1 hj))).2.1 hls.out))
        | (go_at_call 197; refine (delete_c w (addup s) v5 w5 ho5.out hX5.out hla.out).mono ?_; rintro ee w6 ⟨v6, rfl, ho6, hX6⟩; rw [show filt (addup s) = nmL l from norm_code hps.out hss.out hnow.out] at ho6; have huf := hide (unlessFull_c (nmL l) v6 w.heap.size w6 ho6); replace hX6 := hide hX6; clear ho6)
        | (go_at_call 132; refine huf.out.mono ?_; rintro ee w7 ⟨v7, rfl, ho7, hx7⟩))
      go_returns
      rw [hEF.out, hRF.out]
      exact ⟨_, rfl, ho7, hX6.out.trans hx7⟩
    · rw [hw] at hc2
      have e1 : E = 13 := by rw [hE]; unfold nmE; rw [ht, hw]; rfl
      have e2 : R = [] := by rw [hR]; unfold nmR; rw [← hE, e1, if_neg (by decide)]
      subst e1
      subst e2
      obtain ⟨A, cap, rfl, -, -, -⟩ := jw_form h
      clear hE hR h ht hw
      go_enter Tryz.func141, Tryz.ntmps141
      go_wp2_with (first
        | (go_at_call 192; (with_reducible refine seq_gw (hc1.out _ hX0.out) ?_); intro g)
        | (go_at_call 192; (with_reducible refine seq_gw' (hc2.out _ g.grown) ?_); intro g2))
      go_returns
      exact ⟨_, rfl, World.ownsRow_nil _ _ _ _, g2.grown⟩
  · rw [ht] at hc1
    have e1 : E = 2 := by rw [hE]; unfold nmE; rw [ht]; rfl
    have e2 : R = [] := by rw [hR]; unfold nmR; rw [← hE, e1, if_neg (by decide)]
    subst e1
    subst e2
    obtain ⟨A, cap, rfl, -, -, -⟩ := jw_form h
    clear hE hR h ht
    go_enter Tryz.func141, Tryz.ntmps141
    go_wp2_with (go_at_call 192; (with_reducible refine seq_gw (hc1.out _ hX0.out) ?_); intro g)
    go_returns
    exact ⟨_, rfl, World.ownsRow_nil _ _ _ _, g.grown⟩
end Go.Proofs.YtiknkcadbaeknaaGreat
