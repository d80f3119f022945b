/-
  A helper of ours: no claim of its own. Layer 9 (step): jumps put together, by the code.
-/
import Derived.Test.YtkfhihnmlaomcaaGreatStepQ
set_option linter.unusedVariables false
set_option linter.unusedSimpArgs false
namespace Go.Proofs.YtkfhihnmlaomcaaGreat
open Go.RowKit
attribute [local go_sem] GW.cell GW.frozen In.eq_true In.le_true In.ne In.ne' In.ne_add In.ne_add' In.lt_add Upto.le_true Upto.le_add Upto.lt_add
theorem any_no {l : List Jp} {p : Jp → Bool} (h : l.any p = false) : ∀ j ∈ l, p j = false := by
  intro j hj
  have := List.any_eq_false.1 h j hj
  simpa using this
theorem net_ok {l : List Jp} (h : l.any tooJ = false) : ∀ j ∈ l, -1048576 ≤ j.2 ∧ j.2 ≤ 1048576 := fun j hj => by
  have := any_no h j hj; unfold tooJ at this; rw [decide_eq_false_iff_not] at this; omega
set_option maxHeartbeats 4000000 in
set_option maxRecDepth 100000 in
theorem stepNorm_c (l : List Jp) (hn : l.length ≤ 4096) (v : Value) (w : World) (h : Jw w [] v l) : Calls Tryz.prog 86 #[v] w fun e w' => ∃ v', e = .returned (.tuple #[v', .int .i64 (nmE l)]) ∧ OwnJ w' w.heap.size v' (nmR l) ∧ Ext w w' := by
  have hc1 := hide (fun w' (hX : Ext w w') => containsToo_c l v w' (Sl.ext h hX))
  have hc2 := hide (fun w' (hX : Ext w w') => containsNow_c l v w' (Sl.ext h hX))
  have hX0 := hide (Ext.refl w)
  obtain ⟨E, hE⟩ : ∃ E, E = nmE l := ⟨_, rfl⟩
  obtain ⟨R, hR⟩ : ∃ R, R = nmR l := ⟨_, rfl⟩
  rw [← hE, ← hR]
  cases ht : l.any tooJ
  · rw [ht] at hc1
    cases hw : l.any nowJ
    · rw [hw] at hc2
      have hEF : Hid (E = full (nmL l)) := by show _ = _; rw [hE]; unfold nmE; rw [ht, hw]; rfl
      have hRF : Hid (R = kept (nmL l)) := by
        show _ = _
        rw [hR]; unfold nmR nmE; rw [ht, hw]
        unfold full kept
        cases mayJ (nmL l) <;> rfl
      have hcl := hide (fun w' (hX : Ext w w') => jmpClone_c l v w' (Sl.ext h hX) (by omega))
      have hnet := hide (net_ok ht)
      have hnow := hide (any_no hw)
      obtain ⟨A, cap, rfl, -, -, -⟩ := jw_form h
      replace hn := hide hn
      clear hE hR h ht hw
      go_enter Tryz.func86, Tryz.ntmps86
      go_wp2_with (first
        | (go_at_call 104; (with_reducible refine seq_gw (hc1.out _ hX0.out) ?_); intro g)
        | (go_at_call 104; (with_reducible refine seq_gw' (hc2.out _ g.grown) ?_); intro g2)
        | (go_at_call 97; refine (hcl.out _ g2.grown).mono ?_; rintro ee w3 ⟨v3, rfl, ho3, hx3⟩; have hX3 := hide (g2.grown.trans hx3); have hsz := GW.size g2; replace ho3 := hide (own_base ho3 hsz); obtain ⟨A3, cap3, rfl⟩ := own_form ho3.out)
        | (go_at_call 106; refine (sort_c w l _ w3 ho3.out hX3.out hn.out).mono ?_; rintro ee w4 ⟨rfl, s, hp, hs, ho4, hX4⟩; have hpl := hp.length_eq; have hps := hide hp; have hss := hide hs; replace hX4 := hide hX4; replace ho4 := hide ho4; have hls := hide (show s.length ≤ 4096 by rw [hpl]; exact hn.out); replace hpl := hide hpl)
        | (go_at_call 109; refine (addedUp_c s hss.out (fun j hj => hnet.out j (hps.out.mem_iff.1 hj)) hls.out _ w4 (by have := own_jw (S := []) ho4.out (by simp); exact this)).mono ?_; rintro ee w5 ⟨v5, rfl, ho5, hx5⟩; have hX5 := hide (hX4.out.trans hx5); have hsz5 := hX4.out.size; replace ho5 := hide (own_base ho5 hsz5); have hla := hide (show (addup s).length ≤ 4096 from Nat.le_trans (addup_inv 1048576 (by omega) s.length s rfl hss.out (fun j hj => hnet.out j (hps.out.mem_iff.1 hj))).2.1 hls.out))
        | (go_at_call 108; refine (delete_c w (addup s) v5 w5 ho5.out hX5.out hla.out).mono ?_; rintro ee w6 ⟨v6, rfl, ho6, hX6⟩; rw [show filt (addup s) = nmL l from norm_code hps.out hss.out hnow.out] at ho6; have huf := hide (unlessFull_c (nmL l) v6 w.heap.size w6 ho6); replace hX6 := hide hX6; clear ho6)
        | (go_at_call 98; refine huf.out.mono ?_; rintro ee w7 ⟨v7, rfl, ho7, hx7⟩))
      go_returns
      rw [hEF.out, hRF.out]
      exact ⟨_, rfl, ho7, hX6.out.trans hx7⟩
    · rw [hw] at hc2
      have e1 : E = 13 := by rw [hE]; unfold nmE; rw [ht, hw]; rfl
      have e2 : R = [] := by rw [hR]; unfold nmR; rw [← hE, e1, if_neg (by decide)]
      subst e1
      subst e2
      obtain ⟨A, cap, rfl, -, -, -⟩ := jw_form h
      clear hE hR h ht hw
      go_enter Tryz.func86, Tryz.ntmps86
      go_wp2_with (first
        | (go_at_call 104; (with_reducible refine seq_gw (hc1.out _ hX0.out) ?_); intro g)
        | (go_at_call 104; (with_reducible refine seq_gw' (hc2.out _ g.grown) ?_); intro g2))
      go_returns
      exact ⟨_, rfl, World.ownsRow_nil _ _ _ _, g2.grown⟩
  · rw [ht] at hc1
    have e1 : E = 2 := by rw [hE]; unfold nmE; rw [ht]; rfl
    have e2 : R = [] := by rw [hR]; unfold nmR; rw [← hE, e1, if_neg (by decide)]
    subst e1
    subst e2
    obtain ⟨A, cap, rfl, -, -, -⟩ := jw_form h
    clear hE hR h ht
    go_enter Tryz.func86, Tryz.ntmps86
    go_wp2_with (go_at_call 104; (with_reducible refine seq_gw (hc1.out _ hX0.out) ?_); intro g)
    go_returns
    exact ⟨_, rfl, World.ownsRow_nil _ _ _ _, g.grown⟩
end Go.Proofs.YtkfhihnmlaomcaaGreat
