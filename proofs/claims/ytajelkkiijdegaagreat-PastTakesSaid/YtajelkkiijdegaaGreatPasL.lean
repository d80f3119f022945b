/-
  A helper of ours: no claim of its own. Layer 14 (past): the result of a message.
-/
import Derived.Test.YtajelkkiijdegaaGreatPasK
set_option linter.unusedVariables false
set_option linter.unusedSimpArgs false
namespace Go.Proofs.YtajelkkiijdegaaGreat
open Go.RowKit
attribute [local go_sem] GW.cell GW.frozen In.eq_true In.le_true In.ne In.ne' In.ne_add In.ne_add' In.lt_add Upto.le_true Upto.le_add Upto.lt_add
def resI (K : Int) (ins fit : Bool) (E : Int) (cnt : Nat) : Int := if K = 0 then if ins && !fit then 17 else if E = 0 then if ins && decide (4096 ≤ cnt) then 7 else 0 else E else K
section
variable {base p : Nat} {sc : List Cl} {c ser : Int} {mb n : Nat} {L : List Pb}
set_option maxHeartbeats 16000000 in
set_option maxRecDepth 100000 in
theorem presult_c (G : List Vm) (q : Vm) (lv : Value) (w : World) (h : Pz w base p sc c ser mb n L) (hL : Mw w [] lv (G ++ [q])) (hin : ∀ p ∈ G ++ [q], inM p.2) (hlen : G.length ≤ 1000) (E : Int) (hE : (runE (0, []) (pms (G ++ [q]))).getLast? = some E) (hcl : L.length ≤ 8192) :
    Calls Tryz.prog 40 #[.pointer (some ⟨p, 0, none⟩), lv] w fun e w' => e = .returned (.int .i64 (resI (mkM q.2) (decide (q.2.1.1 = 1)) (fitsS sc q.2.2) E L.length)) ∧ Ext w w' := by
  have hlast := hide (plastM_c G q lv w hL (by omega))
  have hq := hL.2 q (by simp)
  have hans := hide (fun w' (hX : Ext w w') => answers_c (G ++ [q]) lv w' (hL.ext hX) hin (by simp; omega))
  have hrl := runE_len (pms (G ++ [q])) (0, [])
  obtain ⟨l0, hl0e⟩ := List.getLast?_eq_some_iff.1 hE
  rw [hl0e] at hans hrl
  have hl0 : l0.length ≤ 100000 := by simp [pms] at hrl; omega
  have hcnt := hide (fun w' (hX : Ext w w') => pcount_c w' (h.ext hX))
  obtain ⟨⟨sv, u, hP, hC⟩, hM, hR⟩ := h
  obtain ⟨SA, scap, hsv⟩ := own_form hC
  subst hsv
  obtain ⟨qv, ⟨k, i, f, t⟩, r⟩ := q
  obtain ⟨QA, qc, hqv⟩ := rw_val hq
  simp only at hqv
  subst hqv
  have hchk := hide (fun w' (hX : Ext w w') => check_c k i f t r (.slice QA r.length qc) w' (Sl.ext hq hX))
  have hfit := hide (fun w' (hX : Ext w w') => fitsS_c (l := sc) (m := r) (v := .slice SA sc.length scap) (u := .slice QA r.length qc) (Sl.ext (Sl.own hC (by simp)) hX) (Sl.ext hq hX))
  have hpo := hide hP.ob
  simp only at hlast ⊢
  rw [show mkM ((k, i, f, t), r) = mchk k i f t r from rfl]
  generalize mchk k i f t r = K at *
  generalize fitsS sc r = F at *
  generalize L.length = cn at *
  haveI : In p w := ⟨hpo.out.lt⟩
  clear hL hin hE hrl hl0e hP hC hM hR hq
  unfold resI
  by_cases hK : K = 0
  · subst hK
    rw [if_pos rfl]
    by_cases hk : k = 1
    · subst hk
      rw [decide_eq_true (rfl : (1 : Int) = 1), Bool.true_and, Bool.true_and]
      cases F
      · rw [if_pos (by rfl)]
        go_enter Tryz.func40, Tryz.ntmps40
        go_wp2_with (first | (go_at_call 86; (with_reducible refine seq_gw hlast.out ?_); intro g1) | (go_at_call 87; (with_reducible refine seq_gw (hchk.out _ (g1.grown.alloc _)) ?_); intro g2; have hX2 := hide ((g1.grown.alloc (mO 1 i f t (.slice QA r.length qc))).trans g2.grown); have O2 := hide ((Ob.new g1.val 44 [.int .i64 1, .int .i64 i, .int .i64 f, .int .i64 t, .slice QA r.length qc]).ext g2.grown); have m0 := O2.out.cell 0 rfl; have m4 := O2.out.cell 4 rfl; have P2 := hide (hpo.out.ext hX2.out); have p0 := P2.out.cell 0 rfl; haveI : In g1.val.heap.size g2.val := ⟨O2.out.lt⟩; haveI : In p g2.val := ⟨P2.out.lt⟩))
        refine wp_region_gw (by kernel_rfl) (by kernel_rfl) ?_
        repeat (go_big_quiet_step ((go_at_call 27; with_reducible exact quiet_gw (hfit.out _ (hX2.out.trans (GW.grown _))))))
        refine wpQuiet_nil ?_
        intro g3
        clear m4 p0
        go_wp2_with fail
        go_returns
        exact ⟨rfl, hX2.out.trans g3.grown⟩
      · rw [if_neg (by simp)]
        by_cases hE0 : E = 0
        · subst hE0
          rw [if_pos rfl]
          by_cases hc : 4096 ≤ cn
          · rw [decide_eq_true hc, if_pos rfl]
            have hc1 : (4096 : Int) ≤ cn := by omega
            have hc2 : decide ((4096 : Int) ≤ cn) = true := decide_eq_true hc1
            go_enter Tryz.func40, Tryz.ntmps40
            go_wp2_with (first | (go_at_call 86; (with_reducible refine seq_gw hlast.out ?_); intro g1) | (go_at_call 87; (with_reducible refine seq_gw (hchk.out _ (g1.grown.alloc _)) ?_); intro g2; have hX2 := hide ((g1.grown.alloc (mO 1 i f t (.slice QA r.length qc))).trans g2.grown); have O2 := hide ((Ob.new g1.val 44 [.int .i64 1, .int .i64 i, .int .i64 f, .int .i64 t, .slice QA r.length qc]).ext g2.grown); have m0 := O2.out.cell 0 rfl; have m4 := O2.out.cell 4 rfl; have P2 := hide (hpo.out.ext hX2.out); have p0 := P2.out.cell 0 rfl; haveI : In g1.val.heap.size g2.val := ⟨O2.out.lt⟩; haveI : In p g2.val := ⟨P2.out.lt⟩))
            refine wp_region_gw (by kernel_rfl) (by kernel_rfl) ?_
            repeat (go_big_quiet_step ((go_at_call 27; with_reducible exact quiet_gw (hfit.out _ (hX2.out.trans (GW.grown _))))))
            refine wpQuiet_nil ?_
            intro g3
            clear m4 p0
            go_wp2_with (first | (go_at_call 89; refine (hans.out _ (hX2.out.trans g3.grown)).mono ?_; rintro ee w4 ⟨v4, rfl, ho4, hX4⟩; have hX5 := hide ((hX2.out.trans g3.grown).trans hX4); have hlE := hide (plastE_c l0 _ v4 w4 _ ho4 hl0); have O4 := hide (O2.out.ext (g3.grown.trans hX4)); clear ho4 hX4) | (go_at_call 88; (with_reducible refine seq_gw hlE.out ?_); intro g6; have n0 := (O4.out.ext g6.grown).cell 0 rfl; haveI : In g1.val.heap.size g6.val := ⟨(O4.out.ext g6.grown).lt⟩) | (go_at_call 9; (with_reducible refine seq_gw (hcnt.out _ (hX5.out.trans g6.grown)) ?_); intro g7))
            go_returns
            exact ⟨rfl, (hX5.out.trans g6.grown).trans g7.grown⟩
          · rw [decide_eq_false hc, if_neg (by simp)]
            have hc1 : ¬ (4096 : Int) ≤ cn := by omega
            have hc2 : decide ((4096 : Int) ≤ cn) = false := decide_eq_false hc1
            go_enter Tryz.func40, Tryz.ntmps40
            go_wp2_with (first | (go_at_call 86; (with_reducible refine seq_gw hlast.out ?_); intro g1) | (go_at_call 87; (with_reducible refine seq_gw (hchk.out _ (g1.grown.alloc _)) ?_); intro g2; have hX2 := hide ((g1.grown.alloc (mO 1 i f t (.slice QA r.length qc))).trans g2.grown); have O2 := hide ((Ob.new g1.val 44 [.int .i64 1, .int .i64 i, .int .i64 f, .int .i64 t, .slice QA r.length qc]).ext g2.grown); have m0 := O2.out.cell 0 rfl; have m4 := O2.out.cell 4 rfl; have P2 := hide (hpo.out.ext hX2.out); have p0 := P2.out.cell 0 rfl; haveI : In g1.val.heap.size g2.val := ⟨O2.out.lt⟩; haveI : In p g2.val := ⟨P2.out.lt⟩))
            refine wp_region_gw (by kernel_rfl) (by kernel_rfl) ?_
            repeat (go_big_quiet_step ((go_at_call 27; with_reducible exact quiet_gw (hfit.out _ (hX2.out.trans (GW.grown _))))))
            refine wpQuiet_nil ?_
            intro g3
            clear m4 p0
            go_wp2_with (first | (go_at_call 89; refine (hans.out _ (hX2.out.trans g3.grown)).mono ?_; rintro ee w4 ⟨v4, rfl, ho4, hX4⟩; have hX5 := hide ((hX2.out.trans g3.grown).trans hX4); have hlE := hide (plastE_c l0 _ v4 w4 _ ho4 hl0); have O4 := hide (O2.out.ext (g3.grown.trans hX4)); clear ho4 hX4) | (go_at_call 88; (with_reducible refine seq_gw hlE.out ?_); intro g6; have n0 := (O4.out.ext g6.grown).cell 0 rfl; haveI : In g1.val.heap.size g6.val := ⟨(O4.out.ext g6.grown).lt⟩) | (go_at_call 9; (with_reducible refine seq_gw (hcnt.out _ (hX5.out.trans g6.grown)) ?_); intro g7))
            go_returns
            exact ⟨rfl, (hX5.out.trans g6.grown).trans g7.grown⟩
        · rw [if_neg hE0]
          have hE1 : (E == 0) = false := by simp [hE0]
          have hE2 : decide (E = 0) = false := decide_eq_false hE0
          go_enter Tryz.func40, Tryz.ntmps40
          go_wp2_with (first | (go_at_call 86; (with_reducible refine seq_gw hlast.out ?_); intro g1) | (go_at_call 87; (with_reducible refine seq_gw (hchk.out _ (g1.grown.alloc _)) ?_); intro g2; have hX2 := hide ((g1.grown.alloc (mO 1 i f t (.slice QA r.length qc))).trans g2.grown); have O2 := hide ((Ob.new g1.val 44 [.int .i64 1, .int .i64 i, .int .i64 f, .int .i64 t, .slice QA r.length qc]).ext g2.grown); have m0 := O2.out.cell 0 rfl; have m4 := O2.out.cell 4 rfl; have P2 := hide (hpo.out.ext hX2.out); have p0 := P2.out.cell 0 rfl; haveI : In g1.val.heap.size g2.val := ⟨O2.out.lt⟩; haveI : In p g2.val := ⟨P2.out.lt⟩))
          refine wp_region_gw (by kernel_rfl) (by kernel_rfl) ?_
          repeat (go_big_quiet_step ((go_at_call 27; with_reducible exact quiet_gw (hfit.out _ (hX2.out.trans (GW.grown _))))))
          refine wpQuiet_nil ?_
          intro g3
          clear m4 p0
          go_wp2_with (first | (go_at_call 89; refine (hans.out _ (hX2.out.trans g3.grown)).mono ?_; rintro ee w4 ⟨v4, rfl, ho4, hX4⟩; have hX5 := hide ((hX2.out.trans g3.grown).trans hX4); have hlE := hide (plastE_c l0 _ v4 w4 _ ho4 hl0); have O4 := hide (O2.out.ext (g3.grown.trans hX4)); clear ho4 hX4) | (go_at_call 88; (with_reducible refine seq_gw hlE.out ?_); intro g6; have n0 := (O4.out.ext g6.grown).cell 0 rfl; haveI : In g1.val.heap.size g6.val := ⟨(O4.out.ext g6.grown).lt⟩) | (go_at_call 9; (with_reducible refine seq_gw (hcnt.out _ (hX5.out.trans g6.grown)) ?_); intro g7))
          go_returns
          exact ⟨rfl, hX5.out.trans g6.grown⟩
    · have hk1 : (k == 1) = false := by simp [hk]
      have hk2 : decide (k = 1) = false := decide_eq_false hk
      simp only [hk2, Bool.false_and, Bool.false_eq_true, if_false]
      by_cases hE0 : E = 0
      · subst hE0
        rw [if_pos rfl]
        go_enter Tryz.func40, Tryz.ntmps40
        go_wp2_with (first | (go_at_call 86; (with_reducible refine seq_gw hlast.out ?_); intro g1) | (go_at_call 87; (with_reducible refine seq_gw (hchk.out _ (g1.grown.alloc _)) ?_); intro g2; have hX2 := hide ((g1.grown.alloc (mO k i f t (.slice QA r.length qc))).trans g2.grown); have O2 := hide ((Ob.new g1.val 44 [.int .i64 k, .int .i64 i, .int .i64 f, .int .i64 t, .slice QA r.length qc]).ext g2.grown); have m0 := O2.out.cell 0 rfl; have m4 := O2.out.cell 4 rfl; have P2 := hide (hpo.out.ext hX2.out); have p0 := P2.out.cell 0 rfl; haveI : In g1.val.heap.size g2.val := ⟨O2.out.lt⟩; haveI : In p g2.val := ⟨P2.out.lt⟩))
        refine wp_region_gw (by kernel_rfl) (by kernel_rfl) ?_
        repeat (go_big_quiet_step ((go_at_call 27; with_reducible exact quiet_gw (hfit.out _ (hX2.out.trans (GW.grown _))))))
        refine wpQuiet_nil ?_
        intro g3
        clear m4 p0
        go_wp2_with (first | (go_at_call 89; refine (hans.out _ (hX2.out.trans g3.grown)).mono ?_; rintro ee w4 ⟨v4, rfl, ho4, hX4⟩; have hX5 := hide ((hX2.out.trans g3.grown).trans hX4); have hlE := hide (plastE_c l0 _ v4 w4 _ ho4 hl0); have O4 := hide (O2.out.ext (g3.grown.trans hX4)); clear ho4 hX4) | (go_at_call 88; (with_reducible refine seq_gw hlE.out ?_); intro g6; have n0 := (O4.out.ext g6.grown).cell 0 rfl; haveI : In g1.val.heap.size g6.val := ⟨(O4.out.ext g6.grown).lt⟩) | (go_at_call 9; (with_reducible refine seq_gw (hcnt.out _ (hX5.out.trans g6.grown)) ?_); intro g7))
        go_returns
        exact ⟨rfl, hX5.out.trans g6.grown⟩
      · rw [if_neg hE0]
        have hE1 : (E == 0) = false := by simp [hE0]
        have hE2 : decide (E = 0) = false := decide_eq_false hE0
        go_enter Tryz.func40, Tryz.ntmps40
        go_wp2_with (first | (go_at_call 86; (with_reducible refine seq_gw hlast.out ?_); intro g1) | (go_at_call 87; (with_reducible refine seq_gw (hchk.out _ (g1.grown.alloc _)) ?_); intro g2; have hX2 := hide ((g1.grown.alloc (mO k i f t (.slice QA r.length qc))).trans g2.grown); have O2 := hide ((Ob.new g1.val 44 [.int .i64 k, .int .i64 i, .int .i64 f, .int .i64 t, .slice QA r.length qc]).ext g2.grown); have m0 := O2.out.cell 0 rfl; have m4 := O2.out.cell 4 rfl; have P2 := hide (hpo.out.ext hX2.out); have p0 := P2.out.cell 0 rfl; haveI : In g1.val.heap.size g2.val := ⟨O2.out.lt⟩; haveI : In p g2.val := ⟨P2.out.lt⟩))
        refine wp_region_gw (by kernel_rfl) (by kernel_rfl) ?_
        repeat (go_big_quiet_step ((go_at_call 27; with_reducible exact quiet_gw (hfit.out _ (hX2.out.trans (GW.grown _))))))
        refine wpQuiet_nil ?_
        intro g3
        clear m4 p0
        go_wp2_with (first | (go_at_call 89; refine (hans.out _ (hX2.out.trans g3.grown)).mono ?_; rintro ee w4 ⟨v4, rfl, ho4, hX4⟩; have hX5 := hide ((hX2.out.trans g3.grown).trans hX4); have hlE := hide (plastE_c l0 _ v4 w4 _ ho4 hl0); have O4 := hide (O2.out.ext (g3.grown.trans hX4)); clear ho4 hX4) | (go_at_call 88; (with_reducible refine seq_gw hlE.out ?_); intro g6; have n0 := (O4.out.ext g6.grown).cell 0 rfl; haveI : In g1.val.heap.size g6.val := ⟨(O4.out.ext g6.grown).lt⟩) | (go_at_call 9; (with_reducible refine seq_gw (hcnt.out _ (hX5.out.trans g6.grown)) ?_); intro g7))
        go_returns
        exact ⟨rfl, hX5.out.trans g6.grown⟩
  · rw [if_neg hK]
    have hK1 : (K == 0) = false := by simp [hK]
    have hK2 : decide (K = 0) = false := decide_eq_false hK
    go_enter Tryz.func40, Tryz.ntmps40
    go_wp2_with (first | (go_at_call 86; (with_reducible refine seq_gw hlast.out ?_); intro g1) | (go_at_call 87; (with_reducible refine seq_gw (hchk.out _ (g1.grown.alloc _)) ?_); intro g2; have hX2 := hide ((g1.grown.alloc (mO k i f t (.slice QA r.length qc))).trans g2.grown); have O2 := hide ((Ob.new g1.val 44 [.int .i64 k, .int .i64 i, .int .i64 f, .int .i64 t, .slice QA r.length qc]).ext g2.grown); have m0 := O2.out.cell 0 rfl; have m4 := O2.out.cell 4 rfl; have P2 := hide (hpo.out.ext hX2.out); have p0 := P2.out.cell 0 rfl; haveI : In g1.val.heap.size g2.val := ⟨O2.out.lt⟩; haveI : In p g2.val := ⟨P2.out.lt⟩))
    go_returns
    exact ⟨rfl, hX2.out⟩
end
end Go.Proofs.YtajelkkiijdegaaGreat
