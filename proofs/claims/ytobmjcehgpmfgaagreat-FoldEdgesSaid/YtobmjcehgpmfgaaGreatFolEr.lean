/-
  A helper of ours: no claim of its own. Layer 13 (fold): the edges of a change, by the document.
-/
import Derived.Test.YtobmjcehgpmfgaaGreatEdgQ
import Derived.Test.YtobmjcehgpmfgaaGreatEdgNd
import Derived.Test.YtobmjcehgpmfgaaGreatFolC
set_option linter.unusedVariables false
set_option linter.unusedSimpArgs false
namespace Go.Proofs.YtobmjcehgpmfgaaGreat
open Go.RowKit
attribute [local go_sem] GW.cell GW.frozen In.eq_true In.le_true In.ne In.ne' In.ne_add In.ne_add' In.lt_add Upto.le_true Upto.le_add Upto.lt_add
abbrev ch6 (V : Value) (s o1 o2 n1 n2 : Int) : Obj := .cells #[.int .i64 s, V, .int .i64 o1, .int .i64 o2, .int .i64 n1, .int .i64 n2] 71
abbrev nL2 (V : Value) (q : List Vl) (a b : Int) : List Ve := [(V, q, (a, 1)), (V, q, (b, -1))]
abbrev oL2 (V : Value) (q : List Vl) (a b : Int) : List Ve := [(V, q, (a, -1)), (V, q, (b, 1))]
abbrev nO2 (V : Value) (a b : Int) : Obj := .cells #[V, .int .i64 a, .int .i64 1, V, .int .i64 b, .int .i64 (-1)] 115
abbrev oO2 (V : Value) (a b : Int) : Obj := .cells #[V, .int .i64 a, .int .i64 (-1), V, .int .i64 b, .int .i64 1] 115
theorem own_zero {W1 W : World} (hx : Ext W1 W) : OwnE (W.alloc (.cells #[] 115)) W1.heap.size (.slice (some ⟨W.heap.size, 0, none⟩) 0 0) [] := own_base (World.ownsRow_lit (base := W.heap.size) (e := 115) (size := 3) W #[] 0 (Nat.le_refl _) (by decide) rfl) hx.size
theorem sl_n2 (V : Value) (q : List Vl) (a b : Int) (W : World) : Sl (W.alloc (nO2 V a b)) [] 3 (.slice (some ⟨W.heap.size, 0, none⟩) 2 2) 2 (ec (nL2 V q a b)) := Sl.own (World.ownsRow_lit (base := W.heap.size) (e := 115) (size := 3) W #[V, .int .i64 a, .int .i64 1, V, .int .i64 b, .int .i64 (-1)] 2 (Nat.le_refl _) (by decide) rfl) (by simp)
theorem sl_o2 (V : Value) (q : List Vl) (a b : Int) (W : World) : Sl (W.alloc (oO2 V a b)) [] 3 (.slice (some ⟨W.heap.size, 0, none⟩) 2 2) 2 (ec (oL2 V q a b)) := Sl.own (World.ownsRow_lit (base := W.heap.size) (e := 115) (size := 3) W #[V, .int .i64 a, .int .i64 (-1), V, .int .i64 b, .int .i64 1] 2 (Nat.le_refl _) (by decide) rfl) (by simp)
theorem one_n2 (A : Option Addr) (l c : Nat) (q : List Vl) (a b : Int) : ∀ x ∈ ec (nL2 (.slice A l c) q a b), x.oneCell' = true := by
  intro x hx; simp [ec, ec1] at hx; rcases hx with rfl | rfl | rfl | rfl | rfl | rfl <;> rfl
theorem one_o2 (A : Option Addr) (l c : Nat) (q : List Vl) (a b : Int) : ∀ x ∈ ec (oL2 (.slice A l c) q a b), x.oneCell' = true := by
  intro x hx; simp [ec, ec1] at hx; rcases hx with rfl | rfl | rfl | rfl | rfl | rfl <;> rfl
/-- What the document's own norm answers to the jumps of one change. -/
theorem norm_one (q : List Vl) (hq : mayR q = true) (o n : Spn) (ho : lifeB o = true) (hn : lifeB n = true) (Lc : List Ve) (hL : Lc.length ≤ 1024) (he : eds Lc = (chD o n).map fun j => (q, j)) (R : List Ed) (hR : R = (nmL (chJ o n)).map fun j => (q, j)) (w w1 : World) (u : Value) (hu : Rw w [] u q) (h1 : Ext w w1) (hv : ∀ p ∈ Lc, p.1 = u ∧ p.2.1 = q) (v : Value) (W : World) (hx : Ext w1 W) (how : OwnE W w1.heap.size v Lc) :
    Calls Tryz.prog 109 #[v] W fun e w' => ∃ v' M, e = .returned (.tuple #[v', .int .i64 0]) ∧ eds M = R ∧ OwnEr w' W.heap.size v' M ∧ Ext W w' := by
  have hfD : ∀ j ∈ chD o n, tooJ j = false ∧ nowJ j = false := fun j hj => chJ_fine ho hn j (chD_sub j hj)
  have heq : nmL (chD o n) = nmL (chJ o n) := nmL_eq (fun j hj => (hfD j hj).2) (fun j hj => (chJ_fine ho hn j hj).2) fun t => (ch_jv o n t).symm
  have hne := ne_one q hq (chD o n) hfD (by rw [heq]; exact ch_may ho hn)
  have := refEdgeNorm_c Lc hL v W ⟨Sl.own how (by simp), fun p hp => by obtain ⟨e1, e2⟩ := hv p hp; rw [e1, e2]; exact Sl.ext hu (h1.trans hx)⟩
  rw [he, hne.1, hne.2, heq, ← hR] at this
  exact this
set_option maxHeartbeats 16000000 in
set_option maxRecDepth 100000 in
theorem refFoldEdges_c (s o1 o2 n1 n2 : Int) (q : List Vl) (u : Value) (w : World) (hu : Rw w [] u q) : Calls Tryz.prog 45 #[.agg #[.int .i64 s, u, .int .i64 o1, .int .i64 o2, .int .i64 n1, .int .i64 n2]] w fun e w' => ∃ v' M, e = .returned (.tuple #[v', .int .i64 (fdE q (o1, o2) (n1, n2))]) ∧ eds M = fdR q (o1, o2) (n1, n2) ∧ OwnEr w' w.heap.size v' M ∧ Ext w w' := by
  have hmay := hide (fun w' (hx : Ext w w') => refRowMay_c q u w' (Sl.ext hu hx))
  have hmn := hide (fun w => srefMay_c n1 n2 w)
  have hmo := hide (fun w => srefMay_c o1 o2 w)
  obtain ⟨UA, uc, eu⟩ := rw_val hu
  subst eu
  have hur := hide hu
  obtain ⟨W1, hW1⟩ : ∃ W1, W1 = w.alloc (ch6 (.slice UA q.length uc) s o1 o2 n1 n2) := ⟨_, rfl⟩
  have hx1 := hide (show Ext w (w.alloc (ch6 (.slice UA q.length uc) s o1 o2 n1 n2)) from Gn.ext)
  obtain ⟨E, hE⟩ : ∃ E, E = fdE q (o1, o2) (n1, n2) := ⟨_, rfl⟩
  have hRe : fdR q (o1, o2) (n1, n2) = if E = 0 then (nmL (chJ (o1, o2) (n1, n2))).map fun j => (q, j) else [] := by rw [hE]; rfl
  rw [hRe, ← hE]
  clear hRe hu hW1 W1
  have k1 : (w.alloc (ch6 (.slice UA q.length uc) s o1 o2 n1 n2)).cell? ⟨w.heap.size, 1, none⟩ = some (.slice UA q.length uc) := by simp [go_sem]
  have k2 : (w.alloc (ch6 (.slice UA q.length uc) s o1 o2 n1 n2)).cell? ⟨w.heap.size, 2, none⟩ = some (.int .i64 o1) := by simp [go_sem]
  have k3 : (w.alloc (ch6 (.slice UA q.length uc) s o1 o2 n1 n2)).cell? ⟨w.heap.size, 3, none⟩ = some (.int .i64 o2) := by simp [go_sem]
  cases hm : mayR q
  · rw [hm] at hmay
    have hE2 : E = 2 := by rw [hE]; unfold fdE lifeB spanB; simp [hm]
    subst hE2
    clear hE
    go_enter Tryz.func45, Tryz.ntmps45
    go_wp2_with (first | (go_at_call 28; first | ((with_reducible refine seq_gw' (hmay.out _ Gn.ext) ?_); intro g) | ((with_reducible refine seq_gw (hmay.out _ Gn.ext) ?_); intro g)))
    go_returns
    first | exact ⟨_, rfl, OwnEr.nil _ _, Gn.ext⟩ | exact ⟨_, rfl, [], rfl, OwnEr.nil _ _, Gn.ext⟩ | exact ⟨_, [], rfl, rfl, OwnEr.nil _ _, Gn.ext⟩
  rw [hm] at hmay
  by_cases p1 : n1 = 0
  · by_cases p2 : n2 = 0
    · subst p1; subst p2
      by_cases q1 : o1 = 0
      · by_cases q2 : o2 = 0
        · subst q1; subst q2
          have hE2 : E = 0 := by rw [hE]; unfold fdE lifeB spanB; simp [hm]
          subst hE2
          clear hE
          rw [if_pos rfl]
          obtain ⟨R, hR⟩ : ∃ R, R = (nmL (chJ (0, 0) (0, 0))).map fun j => (q, j) := ⟨_, rfl⟩
          rw [← hR]
          have hnorm := hide (norm_one q hm (0, 0) (0, 0) (by unfold lifeB spanB; simp [hm]) (by unfold lifeB spanB; simp [hm]) ([]) (by simp) (by unfold chD; simp [nL2, oL2, eds]) R hR w (w.alloc (ch6 (.slice UA q.length uc) s 0 0 0 0)) (.slice UA q.length uc) hur.out hx1.out (by intro p hp; simp at hp; try (rcases hp with rfl | rfl | rfl | rfl <;> exact ⟨rfl, rfl⟩); try (rcases hp with rfl | rfl <;> exact ⟨rfl, rfl⟩)))
          clear hR hm
          go_enter Tryz.func45, Tryz.ntmps45
          go_wp2_with (first | (go_at_call 28; first | ((with_reducible refine seq_gw' (hmay.out _ Gn.ext) ?_); intro g) | ((with_reducible refine seq_gw (hmay.out _ Gn.ext) ?_); intro g)) | (go_at_call 109; (refine (hnorm.out _ _ (Gn.ext (w := (w.alloc (ch6 (.slice UA q.length uc) s 0 0 0 0)))) (own_zero (W1 := (w.alloc (ch6 (.slice UA q.length uc) s 0 0 0 0))) Gn.ext)).mono ?_; rintro ee w5 ⟨v5, M5, rfl, hM5, ho5, hx5⟩; obtain ⟨A5, c5, e5⟩ := own_form ho5.1; subst e5; have hxx := hide ((Gn.ext (w := (w.alloc (ch6 (.slice UA q.length uc) s 0 0 0 0)))).trans hx5); replace hM5 := hide hM5; replace ho5 := hide ho5; clear hx5)))
          go_returns
          first | exact ⟨_, rfl, M5, hM5.out, ho5.out.lower (hx1.out.trans (Gn.ext (w := (w.alloc (ch6 (.slice UA q.length uc) s 0 0 0 0))))).size, hx1.out.trans hxx.out⟩ | exact ⟨_, M5, rfl, hM5.out, ho5.out.lower (hx1.out.trans (Gn.ext (w := (w.alloc (ch6 (.slice UA q.length uc) s 0 0 0 0))))).size, hx1.out.trans hxx.out⟩
        · subst q1
          have ob0 : (o2 == 0) = false := by simp [q2]
          have ob1 : decide (o2 = 0) = false := by simp [q2]
          have ho9' : ((0, o2) : Spn) ≠ (0, 0) := by intro h; cases h; first | exact q2 rfl | exact q1 rfl
          cases hso : smayB 0 o2
          · rw [hso] at hmo
            have hE2 : E = 14 := by rw [hE]; unfold fdE lifeB spanB; simp [hm, hso, ho9']
            subst hE2
            clear hE
            go_enter Tryz.func45, Tryz.ntmps45
            go_wp2_with (first | (go_at_call 28; first | ((with_reducible refine seq_gw' (hmay.out _ Gn.ext) ?_); intro g) | ((with_reducible refine seq_gw (hmay.out _ Gn.ext) ?_); intro g)) | (go_at_call 108; first | ((with_reducible refine seq_gw' (hmo.out _) ?_); intro g3) | ((with_reducible refine seq_gw (hmo.out _) ?_); intro g3)))
            go_returns
            first | exact ⟨_, rfl, OwnEr.nil _ _, hx1.out.trans Gn.ext⟩ | exact ⟨_, rfl, [], rfl, OwnEr.nil _ _, hx1.out.trans Gn.ext⟩ | exact ⟨_, [], rfl, rfl, OwnEr.nil _ _, hx1.out.trans Gn.ext⟩
          · rw [hso] at hmo
            have hE2 : E = 0 := by rw [hE]; unfold fdE lifeB spanB; simp [hm, hso]
            subst hE2
            clear hE
            rw [if_pos rfl]
            obtain ⟨R, hR⟩ : ∃ R, R = (nmL (chJ (0, o2) (0, 0))).map fun j => (q, j) := ⟨_, rfl⟩
            rw [← hR]
            have hnorm := hide (norm_one q hm (0, o2) (0, 0) (by unfold lifeB spanB; simp [hm, hso]) (by unfold lifeB spanB; simp [hm, hso]) (oL2 (.slice UA q.length uc) q 0 o2) (by simp) (by unfold chD; simp [nL2, oL2, eds, ho9']) R hR w (w.alloc (ch6 (.slice UA q.length uc) s 0 o2 0 0)) (.slice UA q.length uc) hur.out hx1.out (by intro p hp; simp at hp; try (rcases hp with rfl | rfl | rfl | rfl <;> exact ⟨rfl, rfl⟩); try (rcases hp with rfl | rfl <;> exact ⟨rfl, rfl⟩)))
            clear hR hm
            go_enter Tryz.func45, Tryz.ntmps45
            go_wp2_with (first | (go_at_call 28; first | ((with_reducible refine seq_gw' (hmay.out _ Gn.ext) ?_); intro g) | ((with_reducible refine seq_gw (hmay.out _ Gn.ext) ?_); intro g)) | (go_at_call 108; first | ((with_reducible refine seq_gw' (hmo.out _) ?_); intro g3; have ho0 := hide (own_zero (W1 := w.alloc (ch6 (.slice UA q.length uc) s 0 o2 0 0)) (W := g.val) Gn.ext); generalize (Value.slice (some ⟨g.val.heap.size, 0, none⟩) 0 0) = v0 at ho0 ⊢; obtain ⟨L0, hL0⟩ : ∃ L0 : List Ve, L0 = [] := ⟨[], rfl⟩; rw [← hL0] at ho0; obtain ⟨A0, cc0, e0⟩ := own_form ho0.out; subst e0; replace hL0 := hide hL0) | ((with_reducible refine seq_gw (hmo.out _) ?_); intro g3; have ho0 := hide (own_zero (W1 := w.alloc (ch6 (.slice UA q.length uc) s 0 o2 0 0)) (W := g.val) Gn.ext); generalize (Value.slice (some ⟨g.val.heap.size, 0, none⟩) 0 0) = v0 at ho0 ⊢; obtain ⟨L0, hL0⟩ : ∃ L0 : List Ve, L0 = [] := ⟨[], rfl⟩; rw [← hL0] at ho0; obtain ⟨A0, cc0, e0⟩ := own_form ho0.out; subst e0; replace hL0 := hide hL0)) | (at_builtin; (refine wpl_app tEdg rfl (.tmp 41) (.tmp 54) rfl rfl (own_ext ho0.out Gn.ext) rfl (src_sl Tryz.underlying31 (sl_o2 (.slice UA q.length uc) q 0 o2 _) (one_o2 UA q.length uc q 0 o2) (by omega)) (by first | (rw [hL0.out]; unfold maxLen; simp; done) | (unfold maxLen; simp; done)) (by first | (rw [hL0.out]; simp; done) | (simp; done)) ((Gn.ext (w := (w.alloc (ch6 (.slice UA q.length uc) s 0 o2 0 0)))).size) ?_; intro v9 w9 ho9 hg9 hv9; replace ho9 : OwnE w9 (w.alloc (ch6 (.slice UA q.length uc) s 0 o2 0 0)).heap.size v9 (oL2 (.slice UA q.length uc) q 0 o2) := (by have h0 := own_appE (M := oL2 (.slice UA q.length uc) q 0 o2) ho9; first | exact h0 | (rw [hL0.out] at h0; exact h0)); have hX9 := hide (ext_grown (Gn.ext (w := (w.alloc (ch6 (.slice UA q.length uc) s 0 o2 0 0)))) hg9 (fun z hz => ((ho0.out).lt z hz).1)); obtain ⟨A9, c9, e9⟩ := own_form ho9; subst e9; replace ho9 := hide ho9)) | (go_at_call 109; (refine (hnorm.out _ _ (hX9.out) (ho9.out)).mono ?_; rintro ee w5 ⟨v5, M5, rfl, hM5, ho5, hx5⟩; obtain ⟨A5, c5, e5⟩ := own_form ho5.1; subst e5; have hxx := hide ((hX9.out).trans hx5); replace hM5 := hide hM5; replace ho5 := hide ho5; clear hx5)))
            go_returns
            first | exact ⟨_, rfl, M5, hM5.out, ho5.out.lower (hx1.out.trans (hX9.out)).size, hx1.out.trans hxx.out⟩ | exact ⟨_, M5, rfl, hM5.out, ho5.out.lower (hx1.out.trans (hX9.out)).size, hx1.out.trans hxx.out⟩
      · have oa0 : (o1 == 0) = false := by simp [q1]
        have oa1 : decide (o1 = 0) = false := by simp [q1]
        have ho9' : ((o1, o2) : Spn) ≠ (0, 0) := by intro h; cases h; first | exact q2 rfl | exact q1 rfl
        cases hso : smayB o1 o2
        · rw [hso] at hmo
          have hE2 : E = 14 := by rw [hE]; unfold fdE lifeB spanB; simp [hm, hso, ho9']
          subst hE2
          clear hE
          go_enter Tryz.func45, Tryz.ntmps45
          go_wp2_with (first | (go_at_call 28; first | ((with_reducible refine seq_gw' (hmay.out _ Gn.ext) ?_); intro g) | ((with_reducible refine seq_gw (hmay.out _ Gn.ext) ?_); intro g)) | (go_at_call 108; first | ((with_reducible refine seq_gw' (hmo.out _) ?_); intro g3) | ((with_reducible refine seq_gw (hmo.out _) ?_); intro g3)))
          go_returns
          first | exact ⟨_, rfl, OwnEr.nil _ _, hx1.out.trans Gn.ext⟩ | exact ⟨_, rfl, [], rfl, OwnEr.nil _ _, hx1.out.trans Gn.ext⟩ | exact ⟨_, [], rfl, rfl, OwnEr.nil _ _, hx1.out.trans Gn.ext⟩
        · rw [hso] at hmo
          have hE2 : E = 0 := by rw [hE]; unfold fdE lifeB spanB; simp [hm, hso]
          subst hE2
          clear hE
          rw [if_pos rfl]
          obtain ⟨R, hR⟩ : ∃ R, R = (nmL (chJ (o1, o2) (0, 0))).map fun j => (q, j) := ⟨_, rfl⟩
          rw [← hR]
          have hnorm := hide (norm_one q hm (o1, o2) (0, 0) (by unfold lifeB spanB; simp [hm, hso]) (by unfold lifeB spanB; simp [hm, hso]) (oL2 (.slice UA q.length uc) q o1 o2) (by simp) (by unfold chD; simp [nL2, oL2, eds, ho9']) R hR w (w.alloc (ch6 (.slice UA q.length uc) s o1 o2 0 0)) (.slice UA q.length uc) hur.out hx1.out (by intro p hp; simp at hp; try (rcases hp with rfl | rfl | rfl | rfl <;> exact ⟨rfl, rfl⟩); try (rcases hp with rfl | rfl <;> exact ⟨rfl, rfl⟩)))
          clear hR hm
          go_enter Tryz.func45, Tryz.ntmps45
          go_wp2_with (first | (go_at_call 28; first | ((with_reducible refine seq_gw' (hmay.out _ Gn.ext) ?_); intro g) | ((with_reducible refine seq_gw (hmay.out _ Gn.ext) ?_); intro g)) | (go_at_call 108; first | ((with_reducible refine seq_gw' (hmo.out _) ?_); intro g3; have ho0 := hide (own_zero (W1 := w.alloc (ch6 (.slice UA q.length uc) s o1 o2 0 0)) (W := g.val) Gn.ext); generalize (Value.slice (some ⟨g.val.heap.size, 0, none⟩) 0 0) = v0 at ho0 ⊢; obtain ⟨L0, hL0⟩ : ∃ L0 : List Ve, L0 = [] := ⟨[], rfl⟩; rw [← hL0] at ho0; obtain ⟨A0, cc0, e0⟩ := own_form ho0.out; subst e0; replace hL0 := hide hL0) | ((with_reducible refine seq_gw (hmo.out _) ?_); intro g3; have ho0 := hide (own_zero (W1 := w.alloc (ch6 (.slice UA q.length uc) s o1 o2 0 0)) (W := g.val) Gn.ext); generalize (Value.slice (some ⟨g.val.heap.size, 0, none⟩) 0 0) = v0 at ho0 ⊢; obtain ⟨L0, hL0⟩ : ∃ L0 : List Ve, L0 = [] := ⟨[], rfl⟩; rw [← hL0] at ho0; obtain ⟨A0, cc0, e0⟩ := own_form ho0.out; subst e0; replace hL0 := hide hL0)) | (at_builtin; (refine wpl_app tEdg rfl (.tmp 41) (.tmp 54) rfl rfl (own_ext ho0.out Gn.ext) rfl (src_sl Tryz.underlying31 (sl_o2 (.slice UA q.length uc) q o1 o2 _) (one_o2 UA q.length uc q o1 o2) (by omega)) (by first | (rw [hL0.out]; unfold maxLen; simp; done) | (unfold maxLen; simp; done)) (by first | (rw [hL0.out]; simp; done) | (simp; done)) ((Gn.ext (w := (w.alloc (ch6 (.slice UA q.length uc) s o1 o2 0 0)))).size) ?_; intro v9 w9 ho9 hg9 hv9; replace ho9 : OwnE w9 (w.alloc (ch6 (.slice UA q.length uc) s o1 o2 0 0)).heap.size v9 (oL2 (.slice UA q.length uc) q o1 o2) := (by have h0 := own_appE (M := oL2 (.slice UA q.length uc) q o1 o2) ho9; first | exact h0 | (rw [hL0.out] at h0; exact h0)); have hX9 := hide (ext_grown (Gn.ext (w := (w.alloc (ch6 (.slice UA q.length uc) s o1 o2 0 0)))) hg9 (fun z hz => ((ho0.out).lt z hz).1)); obtain ⟨A9, c9, e9⟩ := own_form ho9; subst e9; replace ho9 := hide ho9)) | (go_at_call 109; (refine (hnorm.out _ _ (hX9.out) (ho9.out)).mono ?_; rintro ee w5 ⟨v5, M5, rfl, hM5, ho5, hx5⟩; obtain ⟨A5, c5, e5⟩ := own_form ho5.1; subst e5; have hxx := hide ((hX9.out).trans hx5); replace hM5 := hide hM5; replace ho5 := hide ho5; clear hx5)))
          go_returns
          first | exact ⟨_, rfl, M5, hM5.out, ho5.out.lower (hx1.out.trans (hX9.out)).size, hx1.out.trans hxx.out⟩ | exact ⟨_, M5, rfl, hM5.out, ho5.out.lower (hx1.out.trans (hX9.out)).size, hx1.out.trans hxx.out⟩
    · subst p1
      have nb0 : (n2 == 0) = false := by simp [p2]
      have nb1 : decide (n2 = 0) = false := by simp [p2]
      have hn9 : ((0, n2) : Spn) ≠ (0, 0) := by intro h; cases h; first | exact p2 rfl | exact p1 rfl
      cases hsn : smayB 0 n2
      · rw [hsn] at hmn
        have hE2 : E = 14 := by rw [hE]; unfold fdE lifeB spanB; simp [hm, hsn, hn9]
        subst hE2
        clear hE
        go_enter Tryz.func45, Tryz.ntmps45
        go_wp2_with (first | (go_at_call 28; first | ((with_reducible refine seq_gw' (hmay.out _ Gn.ext) ?_); intro g) | ((with_reducible refine seq_gw (hmay.out _ Gn.ext) ?_); intro g)) | (go_at_call 108; first | ((with_reducible refine seq_gw' (hmn.out _) ?_); intro g2) | ((with_reducible refine seq_gw (hmn.out _) ?_); intro g2)))
        go_returns
        first | exact ⟨_, rfl, OwnEr.nil _ _, Gn.ext⟩ | exact ⟨_, rfl, [], rfl, OwnEr.nil _ _, Gn.ext⟩ | exact ⟨_, [], rfl, rfl, OwnEr.nil _ _, Gn.ext⟩
      · rw [hsn] at hmn
        by_cases q1 : o1 = 0
        · by_cases q2 : o2 = 0
          · subst q1; subst q2
            have hE2 : E = 0 := by rw [hE]; unfold fdE lifeB spanB; simp [hm, hsn]
            subst hE2
            clear hE
            rw [if_pos rfl]
            obtain ⟨R, hR⟩ : ∃ R, R = (nmL (chJ (0, 0) (0, n2))).map fun j => (q, j) := ⟨_, rfl⟩
            rw [← hR]
            have hnorm := hide (norm_one q hm (0, 0) (0, n2) (by unfold lifeB spanB; simp [hm, hsn]) (by unfold lifeB spanB; simp [hm, hsn]) (nL2 (.slice UA q.length uc) q 0 n2) (by simp) (by unfold chD; simp [nL2, oL2, eds, hn9]) R hR w (w.alloc (ch6 (.slice UA q.length uc) s 0 0 0 n2)) (.slice UA q.length uc) hur.out hx1.out (by intro p hp; simp at hp; try (rcases hp with rfl | rfl | rfl | rfl <;> exact ⟨rfl, rfl⟩); try (rcases hp with rfl | rfl <;> exact ⟨rfl, rfl⟩)))
            clear hR hm
            go_enter Tryz.func45, Tryz.ntmps45
            go_wp2_with (first | (go_at_call 28; first | ((with_reducible refine seq_gw' (hmay.out _ Gn.ext) ?_); intro g) | ((with_reducible refine seq_gw (hmay.out _ Gn.ext) ?_); intro g)) | (go_at_call 108; first | ((with_reducible refine seq_gw' (hmn.out _) ?_); intro g2; have ho0 := hide (own_zero (W1 := w.alloc (ch6 (.slice UA q.length uc) s 0 0 0 n2)) (W := g.val) Gn.ext); generalize (Value.slice (some ⟨g.val.heap.size, 0, none⟩) 0 0) = v0 at ho0 ⊢; obtain ⟨L0, hL0⟩ : ∃ L0 : List Ve, L0 = [] := ⟨[], rfl⟩; rw [← hL0] at ho0; obtain ⟨A0, cc0, e0⟩ := own_form ho0.out; subst e0; replace hL0 := hide hL0) | ((with_reducible refine seq_gw (hmn.out _) ?_); intro g2; have ho0 := hide (own_zero (W1 := w.alloc (ch6 (.slice UA q.length uc) s 0 0 0 n2)) (W := g.val) Gn.ext); generalize (Value.slice (some ⟨g.val.heap.size, 0, none⟩) 0 0) = v0 at ho0 ⊢; obtain ⟨L0, hL0⟩ : ∃ L0 : List Ve, L0 = [] := ⟨[], rfl⟩; rw [← hL0] at ho0; obtain ⟨A0, cc0, e0⟩ := own_form ho0.out; subst e0; replace hL0 := hide hL0)) | (at_builtin; (refine wpl_app tEdg rfl (.tmp 18) (.tmp 31) rfl rfl (own_ext ho0.out Gn.ext) rfl (src_sl Tryz.underlying31 (sl_n2 (.slice UA q.length uc) q 0 n2 _) (one_n2 UA q.length uc q 0 n2) (by omega)) (by first | (rw [hL0.out]; unfold maxLen; simp; done) | (unfold maxLen; simp; done)) (by first | (rw [hL0.out]; simp; done) | (simp; done)) ((Gn.ext (w := (w.alloc (ch6 (.slice UA q.length uc) s 0 0 0 n2)))).size) ?_; intro v8 w8 ho8 hg8 hv8; replace ho8 : OwnE w8 (w.alloc (ch6 (.slice UA q.length uc) s 0 0 0 n2)).heap.size v8 (nL2 (.slice UA q.length uc) q 0 n2) := (by have h0 := own_appE (M := nL2 (.slice UA q.length uc) q 0 n2) ho8; first | exact h0 | (rw [hL0.out] at h0; exact h0)); have hX8 := hide (ext_grown (Gn.ext (w := (w.alloc (ch6 (.slice UA q.length uc) s 0 0 0 n2)))) hg8 (fun z hz => ((ho0.out).lt z hz).1)); obtain ⟨A8, c8, e8⟩ := own_form ho8; subst e8; replace ho8 := hide ho8; have c2 := cell_later hX8.out k2; have c3 := cell_later hX8.out k3; have c1 := cell_later hX8.out k1; have l1 := block_lt_of_cell k1; have l8 := block_lt_of_cell c1; haveI : In w.heap.size w8 := ⟨l8⟩; clear hg8 hv8)) | (go_at_call 109; (refine (hnorm.out _ _ (hX8.out) (ho8.out)).mono ?_; rintro ee w5 ⟨v5, M5, rfl, hM5, ho5, hx5⟩; obtain ⟨A5, c5, e5⟩ := own_form ho5.1; subst e5; have hxx := hide ((hX8.out).trans hx5); replace hM5 := hide hM5; replace ho5 := hide ho5; clear hx5)))
            go_returns
            first | exact ⟨_, rfl, M5, hM5.out, ho5.out.lower (hx1.out.trans (hX8.out)).size, hx1.out.trans hxx.out⟩ | exact ⟨_, M5, rfl, hM5.out, ho5.out.lower (hx1.out.trans (hX8.out)).size, hx1.out.trans hxx.out⟩
          · subst q1
            have ob0 : (o2 == 0) = false := by simp [q2]
            have ob1 : decide (o2 = 0) = false := by simp [q2]
            have ho9' : ((0, o2) : Spn) ≠ (0, 0) := by intro h; cases h; first | exact q2 rfl | exact q1 rfl
            cases hso : smayB 0 o2
            · rw [hso] at hmo
              have hE2 : E = 14 := by rw [hE]; unfold fdE lifeB spanB; simp [hm, hso, hsn, ho9']
              subst hE2
              clear hE
              go_enter Tryz.func45, Tryz.ntmps45
              go_wp2_with (first | (go_at_call 28; first | ((with_reducible refine seq_gw' (hmay.out _ Gn.ext) ?_); intro g) | ((with_reducible refine seq_gw (hmay.out _ Gn.ext) ?_); intro g)) | (go_at_call 108; first | ((with_reducible refine seq_gw' (hmn.out _) ?_); intro g2; have ho0 := hide (own_zero (W1 := w.alloc (ch6 (.slice UA q.length uc) s 0 o2 0 n2)) (W := g.val) Gn.ext); generalize (Value.slice (some ⟨g.val.heap.size, 0, none⟩) 0 0) = v0 at ho0 ⊢; obtain ⟨L0, hL0⟩ : ∃ L0 : List Ve, L0 = [] := ⟨[], rfl⟩; rw [← hL0] at ho0; obtain ⟨A0, cc0, e0⟩ := own_form ho0.out; subst e0; replace hL0 := hide hL0) | ((with_reducible refine seq_gw (hmn.out _) ?_); intro g2; have ho0 := hide (own_zero (W1 := w.alloc (ch6 (.slice UA q.length uc) s 0 o2 0 n2)) (W := g.val) Gn.ext); generalize (Value.slice (some ⟨g.val.heap.size, 0, none⟩) 0 0) = v0 at ho0 ⊢; obtain ⟨L0, hL0⟩ : ∃ L0 : List Ve, L0 = [] := ⟨[], rfl⟩; rw [← hL0] at ho0; obtain ⟨A0, cc0, e0⟩ := own_form ho0.out; subst e0; replace hL0 := hide hL0)) | (at_builtin; (refine wpl_app tEdg rfl (.tmp 18) (.tmp 31) rfl rfl (own_ext ho0.out Gn.ext) rfl (src_sl Tryz.underlying31 (sl_n2 (.slice UA q.length uc) q 0 n2 _) (one_n2 UA q.length uc q 0 n2) (by omega)) (by first | (rw [hL0.out]; unfold maxLen; simp; done) | (unfold maxLen; simp; done)) (by first | (rw [hL0.out]; simp; done) | (simp; done)) ((Gn.ext (w := (w.alloc (ch6 (.slice UA q.length uc) s 0 o2 0 n2)))).size) ?_; intro v8 w8 ho8 hg8 hv8; replace ho8 : OwnE w8 (w.alloc (ch6 (.slice UA q.length uc) s 0 o2 0 n2)).heap.size v8 (nL2 (.slice UA q.length uc) q 0 n2) := (by have h0 := own_appE (M := nL2 (.slice UA q.length uc) q 0 n2) ho8; first | exact h0 | (rw [hL0.out] at h0; exact h0)); have hX8 := hide (ext_grown (Gn.ext (w := (w.alloc (ch6 (.slice UA q.length uc) s 0 o2 0 n2)))) hg8 (fun z hz => ((ho0.out).lt z hz).1)); obtain ⟨A8, c8, e8⟩ := own_form ho8; subst e8; replace ho8 := hide ho8; have c2 := cell_later hX8.out k2; have c3 := cell_later hX8.out k3; have c1 := cell_later hX8.out k1; have l1 := block_lt_of_cell k1; have l8 := block_lt_of_cell c1; haveI : In w.heap.size w8 := ⟨l8⟩; clear hg8 hv8)) | (go_at_call 108; first | ((with_reducible refine seq_gw' (hmo.out _) ?_); intro g3) | ((with_reducible refine seq_gw (hmo.out _) ?_); intro g3)))
              go_returns
              first | exact ⟨_, rfl, OwnEr.nil _ _, hx1.out.trans (hX8.out.trans Gn.ext)⟩ | exact ⟨_, rfl, [], rfl, OwnEr.nil _ _, hx1.out.trans (hX8.out.trans Gn.ext)⟩ | exact ⟨_, [], rfl, rfl, OwnEr.nil _ _, hx1.out.trans (hX8.out.trans Gn.ext)⟩
            · rw [hso] at hmo
              have hE2 : E = 0 := by rw [hE]; unfold fdE lifeB spanB; simp [hm, hsn, hso]
              subst hE2
              clear hE
              rw [if_pos rfl]
              obtain ⟨R, hR⟩ : ∃ R, R = (nmL (chJ (0, o2) (0, n2))).map fun j => (q, j) := ⟨_, rfl⟩
              rw [← hR]
              have hnorm := hide (norm_one q hm (0, o2) (0, n2) (by unfold lifeB spanB; simp [hm, hsn, hso]) (by unfold lifeB spanB; simp [hm, hsn, hso]) (nL2 (.slice UA q.length uc) q 0 n2 ++ oL2 (.slice UA q.length uc) q 0 o2) (by simp) (by unfold chD; simp [nL2, oL2, eds, hn9, ho9']) R hR w (w.alloc (ch6 (.slice UA q.length uc) s 0 o2 0 n2)) (.slice UA q.length uc) hur.out hx1.out (by intro p hp; simp at hp; try (rcases hp with rfl | rfl | rfl | rfl <;> exact ⟨rfl, rfl⟩); try (rcases hp with rfl | rfl <;> exact ⟨rfl, rfl⟩)))
              clear hR hm
              go_enter Tryz.func45, Tryz.ntmps45
              go_wp2_with (first | (go_at_call 28; first | ((with_reducible refine seq_gw' (hmay.out _ Gn.ext) ?_); intro g) | ((with_reducible refine seq_gw (hmay.out _ Gn.ext) ?_); intro g)) | (go_at_call 108; first | ((with_reducible refine seq_gw' (hmn.out _) ?_); intro g2; have ho0 := hide (own_zero (W1 := w.alloc (ch6 (.slice UA q.length uc) s 0 o2 0 n2)) (W := g.val) Gn.ext); generalize (Value.slice (some ⟨g.val.heap.size, 0, none⟩) 0 0) = v0 at ho0 ⊢; obtain ⟨L0, hL0⟩ : ∃ L0 : List Ve, L0 = [] := ⟨[], rfl⟩; rw [← hL0] at ho0; obtain ⟨A0, cc0, e0⟩ := own_form ho0.out; subst e0; replace hL0 := hide hL0) | ((with_reducible refine seq_gw (hmn.out _) ?_); intro g2; have ho0 := hide (own_zero (W1 := w.alloc (ch6 (.slice UA q.length uc) s 0 o2 0 n2)) (W := g.val) Gn.ext); generalize (Value.slice (some ⟨g.val.heap.size, 0, none⟩) 0 0) = v0 at ho0 ⊢; obtain ⟨L0, hL0⟩ : ∃ L0 : List Ve, L0 = [] := ⟨[], rfl⟩; rw [← hL0] at ho0; obtain ⟨A0, cc0, e0⟩ := own_form ho0.out; subst e0; replace hL0 := hide hL0)) | (at_builtin; (refine wpl_app tEdg rfl (.tmp 18) (.tmp 31) rfl rfl (own_ext ho0.out Gn.ext) rfl (src_sl Tryz.underlying31 (sl_n2 (.slice UA q.length uc) q 0 n2 _) (one_n2 UA q.length uc q 0 n2) (by omega)) (by first | (rw [hL0.out]; unfold maxLen; simp; done) | (unfold maxLen; simp; done)) (by first | (rw [hL0.out]; simp; done) | (simp; done)) ((Gn.ext (w := (w.alloc (ch6 (.slice UA q.length uc) s 0 o2 0 n2)))).size) ?_; intro v8 w8 ho8 hg8 hv8; replace ho8 : OwnE w8 (w.alloc (ch6 (.slice UA q.length uc) s 0 o2 0 n2)).heap.size v8 (nL2 (.slice UA q.length uc) q 0 n2) := (by have h0 := own_appE (M := nL2 (.slice UA q.length uc) q 0 n2) ho8; first | exact h0 | (rw [hL0.out] at h0; exact h0)); have hX8 := hide (ext_grown (Gn.ext (w := (w.alloc (ch6 (.slice UA q.length uc) s 0 o2 0 n2)))) hg8 (fun z hz => ((ho0.out).lt z hz).1)); obtain ⟨A8, c8, e8⟩ := own_form ho8; subst e8; replace ho8 := hide ho8; have c2 := cell_later hX8.out k2; have c3 := cell_later hX8.out k3; have c1 := cell_later hX8.out k1; have l1 := block_lt_of_cell k1; have l8 := block_lt_of_cell c1; haveI : In w.heap.size w8 := ⟨l8⟩; clear hg8 hv8)) | (go_at_call 108; first | ((with_reducible refine seq_gw' (hmo.out _) ?_); intro g3) | ((with_reducible refine seq_gw (hmo.out _) ?_); intro g3)) | (at_builtin; (refine wpl_app tEdg rfl (.tmp 41) (.tmp 54) rfl rfl (own_ext ho8.out Gn.ext) rfl (src_sl Tryz.underlying31 (sl_o2 (.slice UA q.length uc) q 0 o2 _) (one_o2 UA q.length uc q 0 o2) (by omega)) (by first | (rw [hL0.out]; unfold maxLen; simp; done) | (unfold maxLen; simp; done)) (by first | (rw [hL0.out]; simp; done) | (simp; done)) (Nat.le_trans hX8.out.size (Gn.ext (w := w8)).size) ?_; intro v9 w9 ho9 hg9 hv9; replace ho9 : OwnE w9 (w.alloc (ch6 (.slice UA q.length uc) s 0 o2 0 n2)).heap.size v9 (nL2 (.slice UA q.length uc) q 0 n2 ++ oL2 (.slice UA q.length uc) q 0 o2) := (by have h0 := own_appE (M := oL2 (.slice UA q.length uc) q 0 o2) ho9; first | exact h0 | (rw [hL0.out] at h0; exact h0)); have hX9 := hide (ext_grown (hX8.out.trans Gn.ext) hg9 (fun z hz => ((ho8.out).lt z hz).1)); obtain ⟨A9, c9, e9⟩ := own_form ho9; subst e9; replace ho9 := hide ho9)) | (go_at_call 109; (refine (hnorm.out _ _ (hX9.out) (ho9.out)).mono ?_; rintro ee w5 ⟨v5, M5, rfl, hM5, ho5, hx5⟩; obtain ⟨A5, c5, e5⟩ := own_form ho5.1; subst e5; have hxx := hide ((hX9.out).trans hx5); replace hM5 := hide hM5; replace ho5 := hide ho5; clear hx5)))
              go_returns
              first | exact ⟨_, rfl, M5, hM5.out, ho5.out.lower (hx1.out.trans (hX9.out)).size, hx1.out.trans hxx.out⟩ | exact ⟨_, M5, rfl, hM5.out, ho5.out.lower (hx1.out.trans (hX9.out)).size, hx1.out.trans hxx.out⟩
        · have oa0 : (o1 == 0) = false := by simp [q1]
          have oa1 : decide (o1 = 0) = false := by simp [q1]
          have ho9' : ((o1, o2) : Spn) ≠ (0, 0) := by intro h; cases h; first | exact q2 rfl | exact q1 rfl
          cases hso : smayB o1 o2
          · rw [hso] at hmo
            have hE2 : E = 14 := by rw [hE]; unfold fdE lifeB spanB; simp [hm, hso, hsn, ho9']
            subst hE2
            clear hE
            go_enter Tryz.func45, Tryz.ntmps45
            go_wp2_with (first | (go_at_call 28; first | ((with_reducible refine seq_gw' (hmay.out _ Gn.ext) ?_); intro g) | ((with_reducible refine seq_gw (hmay.out _ Gn.ext) ?_); intro g)) | (go_at_call 108; first | ((with_reducible refine seq_gw' (hmn.out _) ?_); intro g2; have ho0 := hide (own_zero (W1 := w.alloc (ch6 (.slice UA q.length uc) s o1 o2 0 n2)) (W := g.val) Gn.ext); generalize (Value.slice (some ⟨g.val.heap.size, 0, none⟩) 0 0) = v0 at ho0 ⊢; obtain ⟨L0, hL0⟩ : ∃ L0 : List Ve, L0 = [] := ⟨[], rfl⟩; rw [← hL0] at ho0; obtain ⟨A0, cc0, e0⟩ := own_form ho0.out; subst e0; replace hL0 := hide hL0) | ((with_reducible refine seq_gw (hmn.out _) ?_); intro g2; have ho0 := hide (own_zero (W1 := w.alloc (ch6 (.slice UA q.length uc) s o1 o2 0 n2)) (W := g.val) Gn.ext); generalize (Value.slice (some ⟨g.val.heap.size, 0, none⟩) 0 0) = v0 at ho0 ⊢; obtain ⟨L0, hL0⟩ : ∃ L0 : List Ve, L0 = [] := ⟨[], rfl⟩; rw [← hL0] at ho0; obtain ⟨A0, cc0, e0⟩ := own_form ho0.out; subst e0; replace hL0 := hide hL0)) | (at_builtin; (refine wpl_app tEdg rfl (.tmp 18) (.tmp 31) rfl rfl (own_ext ho0.out Gn.ext) rfl (src_sl Tryz.underlying31 (sl_n2 (.slice UA q.length uc) q 0 n2 _) (one_n2 UA q.length uc q 0 n2) (by omega)) (by first | (rw [hL0.out]; unfold maxLen; simp; done) | (unfold maxLen; simp; done)) (by first | (rw [hL0.out]; simp; done) | (simp; done)) ((Gn.ext (w := (w.alloc (ch6 (.slice UA q.length uc) s o1 o2 0 n2)))).size) ?_; intro v8 w8 ho8 hg8 hv8; replace ho8 : OwnE w8 (w.alloc (ch6 (.slice UA q.length uc) s o1 o2 0 n2)).heap.size v8 (nL2 (.slice UA q.length uc) q 0 n2) := (by have h0 := own_appE (M := nL2 (.slice UA q.length uc) q 0 n2) ho8; first | exact h0 | (rw [hL0.out] at h0; exact h0)); have hX8 := hide (ext_grown (Gn.ext (w := (w.alloc (ch6 (.slice UA q.length uc) s o1 o2 0 n2)))) hg8 (fun z hz => ((ho0.out).lt z hz).1)); obtain ⟨A8, c8, e8⟩ := own_form ho8; subst e8; replace ho8 := hide ho8; have c2 := cell_later hX8.out k2; have c3 := cell_later hX8.out k3; have c1 := cell_later hX8.out k1; have l1 := block_lt_of_cell k1; have l8 := block_lt_of_cell c1; haveI : In w.heap.size w8 := ⟨l8⟩; clear hg8 hv8)) | (go_at_call 108; first | ((with_reducible refine seq_gw' (hmo.out _) ?_); intro g3) | ((with_reducible refine seq_gw (hmo.out _) ?_); intro g3)))
            go_returns
            first | exact ⟨_, rfl, OwnEr.nil _ _, hx1.out.trans (hX8.out.trans Gn.ext)⟩ | exact ⟨_, rfl, [], rfl, OwnEr.nil _ _, hx1.out.trans (hX8.out.trans Gn.ext)⟩ | exact ⟨_, [], rfl, rfl, OwnEr.nil _ _, hx1.out.trans (hX8.out.trans Gn.ext)⟩
          · rw [hso] at hmo
            have hE2 : E = 0 := by rw [hE]; unfold fdE lifeB spanB; simp [hm, hsn, hso]
            subst hE2
            clear hE
            rw [if_pos rfl]
            obtain ⟨R, hR⟩ : ∃ R, R = (nmL (chJ (o1, o2) (0, n2))).map fun j => (q, j) := ⟨_, rfl⟩
            rw [← hR]
            have hnorm := hide (norm_one q hm (o1, o2) (0, n2) (by unfold lifeB spanB; simp [hm, hsn, hso]) (by unfold lifeB spanB; simp [hm, hsn, hso]) (nL2 (.slice UA q.length uc) q 0 n2 ++ oL2 (.slice UA q.length uc) q o1 o2) (by simp) (by unfold chD; simp [nL2, oL2, eds, hn9, ho9']) R hR w (w.alloc (ch6 (.slice UA q.length uc) s o1 o2 0 n2)) (.slice UA q.length uc) hur.out hx1.out (by intro p hp; simp at hp; try (rcases hp with rfl | rfl | rfl | rfl <;> exact ⟨rfl, rfl⟩); try (rcases hp with rfl | rfl <;> exact ⟨rfl, rfl⟩)))
            clear hR hm
            go_enter Tryz.func45, Tryz.ntmps45
            go_wp2_with (first | (go_at_call 28; first | ((with_reducible refine seq_gw' (hmay.out _ Gn.ext) ?_); intro g) | ((with_reducible refine seq_gw (hmay.out _ Gn.ext) ?_); intro g)) | (go_at_call 108; first | ((with_reducible refine seq_gw' (hmn.out _) ?_); intro g2; have ho0 := hide (own_zero (W1 := w.alloc (ch6 (.slice UA q.length uc) s o1 o2 0 n2)) (W := g.val) Gn.ext); generalize (Value.slice (some ⟨g.val.heap.size, 0, none⟩) 0 0) = v0 at ho0 ⊢; obtain ⟨L0, hL0⟩ : ∃ L0 : List Ve, L0 = [] := ⟨[], rfl⟩; rw [← hL0] at ho0; obtain ⟨A0, cc0, e0⟩ := own_form ho0.out; subst e0; replace hL0 := hide hL0) | ((with_reducible refine seq_gw (hmn.out _) ?_); intro g2; have ho0 := hide (own_zero (W1 := w.alloc (ch6 (.slice UA q.length uc) s o1 o2 0 n2)) (W := g.val) Gn.ext); generalize (Value.slice (some ⟨g.val.heap.size, 0, none⟩) 0 0) = v0 at ho0 ⊢; obtain ⟨L0, hL0⟩ : ∃ L0 : List Ve, L0 = [] := ⟨[], rfl⟩; rw [← hL0] at ho0; obtain ⟨A0, cc0, e0⟩ := own_form ho0.out; subst e0; replace hL0 := hide hL0)) | (at_builtin; (refine wpl_app tEdg rfl (.tmp 18) (.tmp 31) rfl rfl (own_ext ho0.out Gn.ext) rfl (src_sl Tryz.underlying31 (sl_n2 (.slice UA q.length uc) q 0 n2 _) (one_n2 UA q.length uc q 0 n2) (by omega)) (by first | (rw [hL0.out]; unfold maxLen; simp; done) | (unfold maxLen; simp; done)) (by first | (rw [hL0.out]; simp; done) | (simp; done)) ((Gn.ext (w := (w.alloc (ch6 (.slice UA q.length uc) s o1 o2 0 n2)))).size) ?_; intro v8 w8 ho8 hg8 hv8; replace ho8 : OwnE w8 (w.alloc (ch6 (.slice UA q.length uc) s o1 o2 0 n2)).heap.size v8 (nL2 (.slice UA q.length uc) q 0 n2) := (by have h0 := own_appE (M := nL2 (.slice UA q.length uc) q 0 n2) ho8; first | exact h0 | (rw [hL0.out] at h0; exact h0)); have hX8 := hide (ext_grown (Gn.ext (w := (w.alloc (ch6 (.slice UA q.length uc) s o1 o2 0 n2)))) hg8 (fun z hz => ((ho0.out).lt z hz).1)); obtain ⟨A8, c8, e8⟩ := own_form ho8; subst e8; replace ho8 := hide ho8; have c2 := cell_later hX8.out k2; have c3 := cell_later hX8.out k3; have c1 := cell_later hX8.out k1; have l1 := block_lt_of_cell k1; have l8 := block_lt_of_cell c1; haveI : In w.heap.size w8 := ⟨l8⟩; clear hg8 hv8)) | (go_at_call 108; first | ((with_reducible refine seq_gw' (hmo.out _) ?_); intro g3) | ((with_reducible refine seq_gw (hmo.out _) ?_); intro g3)) | (at_builtin; (refine wpl_app tEdg rfl (.tmp 41) (.tmp 54) rfl rfl (own_ext ho8.out Gn.ext) rfl (src_sl Tryz.underlying31 (sl_o2 (.slice UA q.length uc) q o1 o2 _) (one_o2 UA q.length uc q o1 o2) (by omega)) (by first | (rw [hL0.out]; unfold maxLen; simp; done) | (unfold maxLen; simp; done)) (by first | (rw [hL0.out]; simp; done) | (simp; done)) (Nat.le_trans hX8.out.size (Gn.ext (w := w8)).size) ?_; intro v9 w9 ho9 hg9 hv9; replace ho9 : OwnE w9 (w.alloc (ch6 (.slice UA q.length uc) s o1 o2 0 n2)).heap.size v9 (nL2 (.slice UA q.length uc) q 0 n2 ++ oL2 (.slice UA q.length uc) q o1 o2) := (by have h0 := own_appE (M := oL2 (.slice UA q.length uc) q o1 o2) ho9; first | exact h0 | (rw [hL0.out] at h0; exact h0)); have hX9 := hide (ext_grown (hX8.out.trans Gn.ext) hg9 (fun z hz => ((ho8.out).lt z hz).1)); obtain ⟨A9, c9, e9⟩ := own_form ho9; subst e9; replace ho9 := hide ho9)) | (go_at_call 109; (refine (hnorm.out _ _ (hX9.out) (ho9.out)).mono ?_; rintro ee w5 ⟨v5, M5, rfl, hM5, ho5, hx5⟩; obtain ⟨A5, c5, e5⟩ := own_form ho5.1; subst e5; have hxx := hide ((hX9.out).trans hx5); replace hM5 := hide hM5; replace ho5 := hide ho5; clear hx5)))
            go_returns
            first | exact ⟨_, rfl, M5, hM5.out, ho5.out.lower (hx1.out.trans (hX9.out)).size, hx1.out.trans hxx.out⟩ | exact ⟨_, M5, rfl, hM5.out, ho5.out.lower (hx1.out.trans (hX9.out)).size, hx1.out.trans hxx.out⟩
  · have na0 : (n1 == 0) = false := by simp [p1]
    have na1 : decide (n1 = 0) = false := by simp [p1]
    have hn9 : ((n1, n2) : Spn) ≠ (0, 0) := by intro h; cases h; first | exact p2 rfl | exact p1 rfl
    cases hsn : smayB n1 n2
    · rw [hsn] at hmn
      have hE2 : E = 14 := by rw [hE]; unfold fdE lifeB spanB; simp [hm, hsn, hn9]
      subst hE2
      clear hE
      go_enter Tryz.func45, Tryz.ntmps45
      go_wp2_with (first | (go_at_call 28; first | ((with_reducible refine seq_gw' (hmay.out _ Gn.ext) ?_); intro g) | ((with_reducible refine seq_gw (hmay.out _ Gn.ext) ?_); intro g)) | (go_at_call 108; first | ((with_reducible refine seq_gw' (hmn.out _) ?_); intro g2) | ((with_reducible refine seq_gw (hmn.out _) ?_); intro g2)))
      go_returns
      first | exact ⟨_, rfl, OwnEr.nil _ _, Gn.ext⟩ | exact ⟨_, rfl, [], rfl, OwnEr.nil _ _, Gn.ext⟩ | exact ⟨_, [], rfl, rfl, OwnEr.nil _ _, Gn.ext⟩
    · rw [hsn] at hmn
      by_cases q1 : o1 = 0
      · by_cases q2 : o2 = 0
        · subst q1; subst q2
          have hE2 : E = 0 := by rw [hE]; unfold fdE lifeB spanB; simp [hm, hsn]
          subst hE2
          clear hE
          rw [if_pos rfl]
          obtain ⟨R, hR⟩ : ∃ R, R = (nmL (chJ (0, 0) (n1, n2))).map fun j => (q, j) := ⟨_, rfl⟩
          rw [← hR]
          have hnorm := hide (norm_one q hm (0, 0) (n1, n2) (by unfold lifeB spanB; simp [hm, hsn]) (by unfold lifeB spanB; simp [hm, hsn]) (nL2 (.slice UA q.length uc) q n1 n2) (by simp) (by unfold chD; simp [nL2, oL2, eds, hn9]) R hR w (w.alloc (ch6 (.slice UA q.length uc) s 0 0 n1 n2)) (.slice UA q.length uc) hur.out hx1.out (by intro p hp; simp at hp; try (rcases hp with rfl | rfl | rfl | rfl <;> exact ⟨rfl, rfl⟩); try (rcases hp with rfl | rfl <;> exact ⟨rfl, rfl⟩)))
          clear hR hm
          go_enter Tryz.func45, Tryz.ntmps45
          go_wp2_with (first | (go_at_call 28; first | ((with_reducible refine seq_gw' (hmay.out _ Gn.ext) ?_); intro g) | ((with_reducible refine seq_gw (hmay.out _ Gn.ext) ?_); intro g)) | (go_at_call 108; first | ((with_reducible refine seq_gw' (hmn.out _) ?_); intro g2; have ho0 := hide (own_zero (W1 := w.alloc (ch6 (.slice UA q.length uc) s 0 0 n1 n2)) (W := g.val) Gn.ext); generalize (Value.slice (some ⟨g.val.heap.size, 0, none⟩) 0 0) = v0 at ho0 ⊢; obtain ⟨L0, hL0⟩ : ∃ L0 : List Ve, L0 = [] := ⟨[], rfl⟩; rw [← hL0] at ho0; obtain ⟨A0, cc0, e0⟩ := own_form ho0.out; subst e0; replace hL0 := hide hL0) | ((with_reducible refine seq_gw (hmn.out _) ?_); intro g2; have ho0 := hide (own_zero (W1 := w.alloc (ch6 (.slice UA q.length uc) s 0 0 n1 n2)) (W := g.val) Gn.ext); generalize (Value.slice (some ⟨g.val.heap.size, 0, none⟩) 0 0) = v0 at ho0 ⊢; obtain ⟨L0, hL0⟩ : ∃ L0 : List Ve, L0 = [] := ⟨[], rfl⟩; rw [← hL0] at ho0; obtain ⟨A0, cc0, e0⟩ := own_form ho0.out; subst e0; replace hL0 := hide hL0)) | (at_builtin; (refine wpl_app tEdg rfl (.tmp 18) (.tmp 31) rfl rfl (own_ext ho0.out Gn.ext) rfl (src_sl Tryz.underlying31 (sl_n2 (.slice UA q.length uc) q n1 n2 _) (one_n2 UA q.length uc q n1 n2) (by omega)) (by first | (rw [hL0.out]; unfold maxLen; simp; done) | (unfold maxLen; simp; done)) (by first | (rw [hL0.out]; simp; done) | (simp; done)) ((Gn.ext (w := (w.alloc (ch6 (.slice UA q.length uc) s 0 0 n1 n2)))).size) ?_; intro v8 w8 ho8 hg8 hv8; replace ho8 : OwnE w8 (w.alloc (ch6 (.slice UA q.length uc) s 0 0 n1 n2)).heap.size v8 (nL2 (.slice UA q.length uc) q n1 n2) := (by have h0 := own_appE (M := nL2 (.slice UA q.length uc) q n1 n2) ho8; first | exact h0 | (rw [hL0.out] at h0; exact h0)); have hX8 := hide (ext_grown (Gn.ext (w := (w.alloc (ch6 (.slice UA q.length uc) s 0 0 n1 n2)))) hg8 (fun z hz => ((ho0.out).lt z hz).1)); obtain ⟨A8, c8, e8⟩ := own_form ho8; subst e8; replace ho8 := hide ho8; have c2 := cell_later hX8.out k2; have c3 := cell_later hX8.out k3; have c1 := cell_later hX8.out k1; have l1 := block_lt_of_cell k1; have l8 := block_lt_of_cell c1; haveI : In w.heap.size w8 := ⟨l8⟩; clear hg8 hv8)) | (go_at_call 109; (refine (hnorm.out _ _ (hX8.out) (ho8.out)).mono ?_; rintro ee w5 ⟨v5, M5, rfl, hM5, ho5, hx5⟩; obtain ⟨A5, c5, e5⟩ := own_form ho5.1; subst e5; have hxx := hide ((hX8.out).trans hx5); replace hM5 := hide hM5; replace ho5 := hide ho5; clear hx5)))
          go_returns
          first | exact ⟨_, rfl, M5, hM5.out, ho5.out.lower (hx1.out.trans (hX8.out)).size, hx1.out.trans hxx.out⟩ | exact ⟨_, M5, rfl, hM5.out, ho5.out.lower (hx1.out.trans (hX8.out)).size, hx1.out.trans hxx.out⟩
        · subst q1
          have ob0 : (o2 == 0) = false := by simp [q2]
          have ob1 : decide (o2 = 0) = false := by simp [q2]
          have ho9' : ((0, o2) : Spn) ≠ (0, 0) := by intro h; cases h; first | exact q2 rfl | exact q1 rfl
          cases hso : smayB 0 o2
          · rw [hso] at hmo
            have hE2 : E = 14 := by rw [hE]; unfold fdE lifeB spanB; simp [hm, hso, hsn, ho9']
            subst hE2
            clear hE
            go_enter Tryz.func45, Tryz.ntmps45
            go_wp2_with (first | (go_at_call 28; first | ((with_reducible refine seq_gw' (hmay.out _ Gn.ext) ?_); intro g) | ((with_reducible refine seq_gw (hmay.out _ Gn.ext) ?_); intro g)) | (go_at_call 108; first | ((with_reducible refine seq_gw' (hmn.out _) ?_); intro g2; have ho0 := hide (own_zero (W1 := w.alloc (ch6 (.slice UA q.length uc) s 0 o2 n1 n2)) (W := g.val) Gn.ext); generalize (Value.slice (some ⟨g.val.heap.size, 0, none⟩) 0 0) = v0 at ho0 ⊢; obtain ⟨L0, hL0⟩ : ∃ L0 : List Ve, L0 = [] := ⟨[], rfl⟩; rw [← hL0] at ho0; obtain ⟨A0, cc0, e0⟩ := own_form ho0.out; subst e0; replace hL0 := hide hL0) | ((with_reducible refine seq_gw (hmn.out _) ?_); intro g2; have ho0 := hide (own_zero (W1 := w.alloc (ch6 (.slice UA q.length uc) s 0 o2 n1 n2)) (W := g.val) Gn.ext); generalize (Value.slice (some ⟨g.val.heap.size, 0, none⟩) 0 0) = v0 at ho0 ⊢; obtain ⟨L0, hL0⟩ : ∃ L0 : List Ve, L0 = [] := ⟨[], rfl⟩; rw [← hL0] at ho0; obtain ⟨A0, cc0, e0⟩ := own_form ho0.out; subst e0; replace hL0 := hide hL0)) | (at_builtin; (refine wpl_app tEdg rfl (.tmp 18) (.tmp 31) rfl rfl (own_ext ho0.out Gn.ext) rfl (src_sl Tryz.underlying31 (sl_n2 (.slice UA q.length uc) q n1 n2 _) (one_n2 UA q.length uc q n1 n2) (by omega)) (by first | (rw [hL0.out]; unfold maxLen; simp; done) | (unfold maxLen; simp; done)) (by first | (rw [hL0.out]; simp; done) | (simp; done)) ((Gn.ext (w := (w.alloc (ch6 (.slice UA q.length uc) s 0 o2 n1 n2)))).size) ?_; intro v8 w8 ho8 hg8 hv8; replace ho8 : OwnE w8 (w.alloc (ch6 (.slice UA q.length uc) s 0 o2 n1 n2)).heap.size v8 (nL2 (.slice UA q.length uc) q n1 n2) := (by have h0 := own_appE (M := nL2 (.slice UA q.length uc) q n1 n2) ho8; first | exact h0 | (rw [hL0.out] at h0; exact h0)); have hX8 := hide (ext_grown (Gn.ext (w := (w.alloc (ch6 (.slice UA q.length uc) s 0 o2 n1 n2)))) hg8 (fun z hz => ((ho0.out).lt z hz).1)); obtain ⟨A8, c8, e8⟩ := own_form ho8; subst e8; replace ho8 := hide ho8; have c2 := cell_later hX8.out k2; have c3 := cell_later hX8.out k3; have c1 := cell_later hX8.out k1; have l1 := block_lt_of_cell k1; have l8 := block_lt_of_cell c1; haveI : In w.heap.size w8 := ⟨l8⟩; clear hg8 hv8)) | (go_at_call 108; first | ((with_reducible refine seq_gw' (hmo.out _) ?_); intro g3) | ((with_reducible refine seq_gw (hmo.out _) ?_); intro g3)))
            go_returns
            first | exact ⟨_, rfl, OwnEr.nil _ _, hx1.out.trans (hX8.out.trans Gn.ext)⟩ | exact ⟨_, rfl, [], rfl, OwnEr.nil _ _, hx1.out.trans (hX8.out.trans Gn.ext)⟩ | exact ⟨_, [], rfl, rfl, OwnEr.nil _ _, hx1.out.trans (hX8.out.trans Gn.ext)⟩
          · rw [hso] at hmo
            have hE2 : E = 0 := by rw [hE]; unfold fdE lifeB spanB; simp [hm, hsn, hso]
            subst hE2
            clear hE
            rw [if_pos rfl]
            obtain ⟨R, hR⟩ : ∃ R, R = (nmL (chJ (0, o2) (n1, n2))).map fun j => (q, j) := ⟨_, rfl⟩
            rw [← hR]
            have hnorm := hide (norm_one q hm (0, o2) (n1, n2) (by unfold lifeB spanB; simp [hm, hsn, hso]) (by unfold lifeB spanB; simp [hm, hsn, hso]) (nL2 (.slice UA q.length uc) q n1 n2 ++ oL2 (.slice UA q.length uc) q 0 o2) (by simp) (by unfold chD; simp [nL2, oL2, eds, hn9, ho9']) R hR w (w.alloc (ch6 (.slice UA q.length uc) s 0 o2 n1 n2)) (.slice UA q.length uc) hur.out hx1.out (by intro p hp; simp at hp; try (rcases hp with rfl | rfl | rfl | rfl <;> exact ⟨rfl, rfl⟩); try (rcases hp with rfl | rfl <;> exact ⟨rfl, rfl⟩)))
            clear hR hm
            go_enter Tryz.func45, Tryz.ntmps45
            go_wp2_with (first | (go_at_call 28; first | ((with_reducible refine seq_gw' (hmay.out _ Gn.ext) ?_); intro g) | ((with_reducible refine seq_gw (hmay.out _ Gn.ext) ?_); intro g)) | (go_at_call 108; first | ((with_reducible refine seq_gw' (hmn.out _) ?_); intro g2; have ho0 := hide (own_zero (W1 := w.alloc (ch6 (.slice UA q.length uc) s 0 o2 n1 n2)) (W := g.val) Gn.ext); generalize (Value.slice (some ⟨g.val.heap.size, 0, none⟩) 0 0) = v0 at ho0 ⊢; obtain ⟨L0, hL0⟩ : ∃ L0 : List Ve, L0 = [] := ⟨[], rfl⟩; rw [← hL0] at ho0; obtain ⟨A0, cc0, e0⟩ := own_form ho0.out; subst e0; replace hL0 := hide hL0) | ((with_reducible refine seq_gw (hmn.out _) ?_); intro g2; have ho0 := hide (own_zero (W1 := w.alloc (ch6 (.slice UA q.length uc) s 0 o2 n1 n2)) (W := g.val) Gn.ext); generalize (Value.slice (some ⟨g.val.heap.size, 0, none⟩) 0 0) = v0 at ho0 ⊢; obtain ⟨L0, hL0⟩ : ∃ L0 : List Ve, L0 = [] := ⟨[], rfl⟩; rw [← hL0] at ho0; obtain ⟨A0, cc0, e0⟩ := own_form ho0.out; subst e0; replace hL0 := hide hL0)) | (at_builtin; (refine wpl_app tEdg rfl (.tmp 18) (.tmp 31) rfl rfl (own_ext ho0.out Gn.ext) rfl (src_sl Tryz.underlying31 (sl_n2 (.slice UA q.length uc) q n1 n2 _) (one_n2 UA q.length uc q n1 n2) (by omega)) (by first | (rw [hL0.out]; unfold maxLen; simp; done) | (unfold maxLen; simp; done)) (by first | (rw [hL0.out]; simp; done) | (simp; done)) ((Gn.ext (w := (w.alloc (ch6 (.slice UA q.length uc) s 0 o2 n1 n2)))).size) ?_; intro v8 w8 ho8 hg8 hv8; replace ho8 : OwnE w8 (w.alloc (ch6 (.slice UA q.length uc) s 0 o2 n1 n2)).heap.size v8 (nL2 (.slice UA q.length uc) q n1 n2) := (by have h0 := own_appE (M := nL2 (.slice UA q.length uc) q n1 n2) ho8; first | exact h0 | (rw [hL0.out] at h0; exact h0)); have hX8 := hide (ext_grown (Gn.ext (w := (w.alloc (ch6 (.slice UA q.length uc) s 0 o2 n1 n2)))) hg8 (fun z hz => ((ho0.out).lt z hz).1)); obtain ⟨A8, c8, e8⟩ := own_form ho8; subst e8; replace ho8 := hide ho8; have c2 := cell_later hX8.out k2; have c3 := cell_later hX8.out k3; have c1 := cell_later hX8.out k1; have l1 := block_lt_of_cell k1; have l8 := block_lt_of_cell c1; haveI : In w.heap.size w8 := ⟨l8⟩; clear hg8 hv8)) | (go_at_call 108; first | ((with_reducible refine seq_gw' (hmo.out _) ?_); intro g3) | ((with_reducible refine seq_gw (hmo.out _) ?_); intro g3)) | (at_builtin; (refine wpl_app tEdg rfl (.tmp 41) (.tmp 54) rfl rfl (own_ext ho8.out Gn.ext) rfl (src_sl Tryz.underlying31 (sl_o2 (.slice UA q.length uc) q 0 o2 _) (one_o2 UA q.length uc q 0 o2) (by omega)) (by first | (rw [hL0.out]; unfold maxLen; simp; done) | (unfold maxLen; simp; done)) (by first | (rw [hL0.out]; simp; done) | (simp; done)) (Nat.le_trans hX8.out.size (Gn.ext (w := w8)).size) ?_; intro v9 w9 ho9 hg9 hv9; replace ho9 : OwnE w9 (w.alloc (ch6 (.slice UA q.length uc) s 0 o2 n1 n2)).heap.size v9 (nL2 (.slice UA q.length uc) q n1 n2 ++ oL2 (.slice UA q.length uc) q 0 o2) := (by have h0 := own_appE (M := oL2 (.slice UA q.length uc) q 0 o2) ho9; first | exact h0 | (rw [hL0.out] at h0; exact h0)); have hX9 := hide (ext_grown (hX8.out.trans Gn.ext) hg9 (fun z hz => ((ho8.out).lt z hz).1)); obtain ⟨A9, c9, e9⟩ := own_form ho9; subst e9; replace ho9 := hide ho9)) | (go_at_call 109; (refine (hnorm.out _ _ (hX9.out) (ho9.out)).mono ?_; rintro ee w5 ⟨v5, M5, rfl, hM5, ho5, hx5⟩; obtain ⟨A5, c5, e5⟩ := own_form ho5.1; subst e5; have hxx := hide ((hX9.out).trans hx5); replace hM5 := hide hM5; replace ho5 := hide ho5; clear hx5)))
            go_returns
            first | exact ⟨_, rfl, M5, hM5.out, ho5.out.lower (hx1.out.trans (hX9.out)).size, hx1.out.trans hxx.out⟩ | exact ⟨_, M5, rfl, hM5.out, ho5.out.lower (hx1.out.trans (hX9.out)).size, hx1.out.trans hxx.out⟩
      · have oa0 : (o1 == 0) = false := by simp [q1]
        have oa1 : decide (o1 = 0) = false := by simp [q1]
        have ho9' : ((o1, o2) : Spn) ≠ (0, 0) := by intro h; cases h; first | exact q2 rfl | exact q1 rfl
        cases hso : smayB o1 o2
        · rw [hso] at hmo
          have hE2 : E = 14 := by rw [hE]; unfold fdE lifeB spanB; simp [hm, hso, hsn, ho9']
          subst hE2
          clear hE
          go_enter Tryz.func45, Tryz.ntmps45
          go_wp2_with (first | (go_at_call 28; first | ((with_reducible refine seq_gw' (hmay.out _ Gn.ext) ?_); intro g) | ((with_reducible refine seq_gw (hmay.out _ Gn.ext) ?_); intro g)) | (go_at_call 108; first | ((with_reducible refine seq_gw' (hmn.out _) ?_); intro g2; have ho0 := hide (own_zero (W1 := w.alloc (ch6 (.slice UA q.length uc) s o1 o2 n1 n2)) (W := g.val) Gn.ext); generalize (Value.slice (some ⟨g.val.heap.size, 0, none⟩) 0 0) = v0 at ho0 ⊢; obtain ⟨L0, hL0⟩ : ∃ L0 : List Ve, L0 = [] := ⟨[], rfl⟩; rw [← hL0] at ho0; obtain ⟨A0, cc0, e0⟩ := own_form ho0.out; subst e0; replace hL0 := hide hL0) | ((with_reducible refine seq_gw (hmn.out _) ?_); intro g2; have ho0 := hide (own_zero (W1 := w.alloc (ch6 (.slice UA q.length uc) s o1 o2 n1 n2)) (W := g.val) Gn.ext); generalize (Value.slice (some ⟨g.val.heap.size, 0, none⟩) 0 0) = v0 at ho0 ⊢; obtain ⟨L0, hL0⟩ : ∃ L0 : List Ve, L0 = [] := ⟨[], rfl⟩; rw [← hL0] at ho0; obtain ⟨A0, cc0, e0⟩ := own_form ho0.out; subst e0; replace hL0 := hide hL0)) | (at_builtin; (refine wpl_app tEdg rfl (.tmp 18) (.tmp 31) rfl rfl (own_ext ho0.out Gn.ext) rfl (src_sl Tryz.underlying31 (sl_n2 (.slice UA q.length uc) q n1 n2 _) (one_n2 UA q.length uc q n1 n2) (by omega)) (by first | (rw [hL0.out]; unfold maxLen; simp; done) | (unfold maxLen; simp; done)) (by first | (rw [hL0.out]; simp; done) | (simp; done)) ((Gn.ext (w := (w.alloc (ch6 (.slice UA q.length uc) s o1 o2 n1 n2)))).size) ?_; intro v8 w8 ho8 hg8 hv8; replace ho8 : OwnE w8 (w.alloc (ch6 (.slice UA q.length uc) s o1 o2 n1 n2)).heap.size v8 (nL2 (.slice UA q.length uc) q n1 n2) := (by have h0 := own_appE (M := nL2 (.slice UA q.length uc) q n1 n2) ho8; first | exact h0 | (rw [hL0.out] at h0; exact h0)); have hX8 := hide (ext_grown (Gn.ext (w := (w.alloc (ch6 (.slice UA q.length uc) s o1 o2 n1 n2)))) hg8 (fun z hz => ((ho0.out).lt z hz).1)); obtain ⟨A8, c8, e8⟩ := own_form ho8; subst e8; replace ho8 := hide ho8; have c2 := cell_later hX8.out k2; have c3 := cell_later hX8.out k3; have c1 := cell_later hX8.out k1; have l1 := block_lt_of_cell k1; have l8 := block_lt_of_cell c1; haveI : In w.heap.size w8 := ⟨l8⟩; clear hg8 hv8)) | (go_at_call 108; first | ((with_reducible refine seq_gw' (hmo.out _) ?_); intro g3) | ((with_reducible refine seq_gw (hmo.out _) ?_); intro g3)))
          go_returns
          first | exact ⟨_, rfl, OwnEr.nil _ _, hx1.out.trans (hX8.out.trans Gn.ext)⟩ | exact ⟨_, rfl, [], rfl, OwnEr.nil _ _, hx1.out.trans (hX8.out.trans Gn.ext)⟩ | exact ⟨_, [], rfl, rfl, OwnEr.nil _ _, hx1.out.trans (hX8.out.trans Gn.ext)⟩
        · rw [hso] at hmo
          have hE2 : E = 0 := by rw [hE]; unfold fdE lifeB spanB; simp [hm, hsn, hso]
          subst hE2
          clear hE
          rw [if_pos rfl]
          obtain ⟨R, hR⟩ : ∃ R, R = (nmL (chJ (o1, o2) (n1, n2))).map fun j => (q, j) := ⟨_, rfl⟩
          rw [← hR]
          have hnorm := hide (norm_one q hm (o1, o2) (n1, n2) (by unfold lifeB spanB; simp [hm, hsn, hso]) (by unfold lifeB spanB; simp [hm, hsn, hso]) (nL2 (.slice UA q.length uc) q n1 n2 ++ oL2 (.slice UA q.length uc) q o1 o2) (by simp) (by unfold chD; simp [nL2, oL2, eds, hn9, ho9']) R hR w (w.alloc (ch6 (.slice UA q.length uc) s o1 o2 n1 n2)) (.slice UA q.length uc) hur.out hx1.out (by intro p hp; simp at hp; try (rcases hp with rfl | rfl | rfl | rfl <;> exact ⟨rfl, rfl⟩); try (rcases hp with rfl | rfl <;> exact ⟨rfl, rfl⟩)))
          clear hR hm
          go_enter Tryz.func45, Tryz.ntmps45
          go_wp2_with (first | (go_at_call 28; first | ((with_reducible refine seq_gw' (hmay.out _ Gn.ext) ?_); intro g) | ((with_reducible refine seq_gw (hmay.out _ Gn.ext) ?_); intro g)) | (go_at_call 108; first | ((with_reducible refine seq_gw' (hmn.out _) ?_); intro g2; have ho0 := hide (own_zero (W1 := w.alloc (ch6 (.slice UA q.length uc) s o1 o2 n1 n2)) (W := g.val) Gn.ext); generalize (Value.slice (some ⟨g.val.heap.size, 0, none⟩) 0 0) = v0 at ho0 ⊢; obtain ⟨L0, hL0⟩ : ∃ L0 : List Ve, L0 = [] := ⟨[], rfl⟩; rw [← hL0] at ho0; obtain ⟨A0, cc0, e0⟩ := own_form ho0.out; subst e0; replace hL0 := hide hL0) | ((with_reducible refine seq_gw (hmn.out _) ?_); intro g2; have ho0 := hide (own_zero (W1 := w.alloc (ch6 (.slice UA q.length uc) s o1 o2 n1 n2)) (W := g.val) Gn.ext); generalize (Value.slice (some ⟨g.val.heap.size, 0, none⟩) 0 0) = v0 at ho0 ⊢; obtain ⟨L0, hL0⟩ : ∃ L0 : List Ve, L0 = [] := ⟨[], rfl⟩; rw [← hL0] at ho0; obtain ⟨A0, cc0, e0⟩ := own_form ho0.out; subst e0; replace hL0 := hide hL0)) | (at_builtin; (refine wpl_app tEdg rfl (.tmp 18) (.tmp 31) rfl rfl (own_ext ho0.out Gn.ext) rfl (src_sl Tryz.underlying31 (sl_n2 (.slice UA q.length uc) q n1 n2 _) (one_n2 UA q.length uc q n1 n2) (by omega)) (by first | (rw [hL0.out]; unfold maxLen; simp; done) | (unfold maxLen; simp; done)) (by first | (rw [hL0.out]; simp; done) | (simp; done)) ((Gn.ext (w := (w.alloc (ch6 (.slice UA q.length uc) s o1 o2 n1 n2)))).size) ?_; intro v8 w8 ho8 hg8 hv8; replace ho8 : OwnE w8 (w.alloc (ch6 (.slice UA q.length uc) s o1 o2 n1 n2)).heap.size v8 (nL2 (.slice UA q.length uc) q n1 n2) := (by have h0 := own_appE (M := nL2 (.slice UA q.length uc) q n1 n2) ho8; first | exact h0 | (rw [hL0.out] at h0; exact h0)); have hX8 := hide (ext_grown (Gn.ext (w := (w.alloc (ch6 (.slice UA q.length uc) s o1 o2 n1 n2)))) hg8 (fun z hz => ((ho0.out).lt z hz).1)); obtain ⟨A8, c8, e8⟩ := own_form ho8; subst e8; replace ho8 := hide ho8; have c2 := cell_later hX8.out k2; have c3 := cell_later hX8.out k3; have c1 := cell_later hX8.out k1; have l1 := block_lt_of_cell k1; have l8 := block_lt_of_cell c1; haveI : In w.heap.size w8 := ⟨l8⟩; clear hg8 hv8)) | (go_at_call 108; first | ((with_reducible refine seq_gw' (hmo.out _) ?_); intro g3) | ((with_reducible refine seq_gw (hmo.out _) ?_); intro g3)) | (at_builtin; (refine wpl_app tEdg rfl (.tmp 41) (.tmp 54) rfl rfl (own_ext ho8.out Gn.ext) rfl (src_sl Tryz.underlying31 (sl_o2 (.slice UA q.length uc) q o1 o2 _) (one_o2 UA q.length uc q o1 o2) (by omega)) (by first | (rw [hL0.out]; unfold maxLen; simp; done) | (unfold maxLen; simp; done)) (by first | (rw [hL0.out]; simp; done) | (simp; done)) (Nat.le_trans hX8.out.size (Gn.ext (w := w8)).size) ?_; intro v9 w9 ho9 hg9 hv9; replace ho9 : OwnE w9 (w.alloc (ch6 (.slice UA q.length uc) s o1 o2 n1 n2)).heap.size v9 (nL2 (.slice UA q.length uc) q n1 n2 ++ oL2 (.slice UA q.length uc) q o1 o2) := (by have h0 := own_appE (M := oL2 (.slice UA q.length uc) q o1 o2) ho9; first | exact h0 | (rw [hL0.out] at h0; exact h0)); have hX9 := hide (ext_grown (hX8.out.trans Gn.ext) hg9 (fun z hz => ((ho8.out).lt z hz).1)); obtain ⟨A9, c9, e9⟩ := own_form ho9; subst e9; replace ho9 := hide ho9)) | (go_at_call 109; (refine (hnorm.out _ _ (hX9.out) (ho9.out)).mono ?_; rintro ee w5 ⟨v5, M5, rfl, hM5, ho5, hx5⟩; obtain ⟨A5, c5, e5⟩ := own_form ho5.1; subst e5; have hxx := hide ((hX9.out).trans hx5); replace hM5 := hide hM5; replace ho5 := hide ho5; clear hx5)))
          go_returns
          first | exact ⟨_, rfl, M5, hM5.out, ho5.out.lower (hx1.out.trans (hX9.out)).size, hx1.out.trans hxx.out⟩ | exact ⟨_, M5, rfl, hM5.out, ho5.out.lower (hx1.out.trans (hX9.out)).size, hx1.out.trans hxx.out⟩
end Go.Proofs.YtobmjcehgpmfgaaGreat
