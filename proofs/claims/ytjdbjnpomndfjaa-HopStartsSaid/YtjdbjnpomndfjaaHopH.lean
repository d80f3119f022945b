/-
  A helper of ours: no claim of its own. Layer 28 (hop): the walks of HopOpens and HopLags, given what must be whatever is asked.
-/
import Derived.Test.YtjdbjnpomndfjaaHopE
set_option linter.unusedVariables false
set_option linter.unusedSimpArgs false
namespace Go.Proofs.Ytjdbjnpomndfjaa
open Go.RowKit
attribute [local go_sem] GW.cell GW.frozen In.eq_true In.le_true In.ne In.ne' In.ne_add In.ne_add' In.lt_add Upto.le_true Upto.le_add Upto.lt_add
theorem owni_at {w : World} {base : Nat} {v : Value} {l : List Int} (h : OwnI w base v l) {k : Nat} {x : Int} (hx : l[k]? = some x) : ∃ g cap, v = .slice (some ⟨g, 0, none⟩) l.length cap ∧ g < w.heap.size ∧ w.cell? ⟨g, k, none⟩ = some (.int .i64 x) := by
  have hk : k < l.length := (List.getElem?_eq_some_iff.1 hx).1
  rcases h.2 with ⟨-, h2⟩ | ⟨g, cap, cur, rfl, hb, hg, -⟩
  · omega
  · have c := h.cells (g := g) rfl k (.int .i64 x) (by unfold ic1; rw [List.getElem?_map, hx]; rfl)
    rw [add_plain, Nat.zero_add] at c
    exact ⟨g, cap, rfl, block_lt_of_cell c, c⟩
set_option maxHeartbeats 4000000 in
set_option maxRecDepth 100000 in
theorem halike_c (w : World) {b1 b2 : Nat} {u v : Value} {l : List Int} (hu : OwnI w b1 u l) (hv : OwnI w b2 v l) (hl : l.length ≤ 100000) : Calls Try.prog 29 #[u, v] w fun e w' => e = .returned (.bool true) ∧ Ext w w' := by
  obtain ⟨A1, c1, rfl⟩ := own_form hu
  obtain ⟨A2, c2, rfl⟩ := own_form hv
  replace hu := hide hu
  replace hv := hide hv
  go_enter Try.func29, Try.ntmps29
  go_wp2_with fail
  go_loopg [5] l.length (fun gh iv wr => ∃ (k : Nat), iv = .int .i64 k ∧ k + gh = l.length ∧ Hid (Ext w wr))
  case atStart => exact ⟨0, rfl, by omega, Ext.refl _⟩
  case round =>
    obtain ⟨k, rfl, hk, hX⟩ := hrel
    by_cases hkl : k < l.length
    · have hkI : (k : Int) < l.length := by omega
      obtain ⟨x, hx⟩ : ∃ x, l[k]? = some x := ⟨_, List.getElem?_eq_getElem hkl⟩
      obtain ⟨ga, ca, ea, la, x0⟩ := owni_at (k := k) (own_ext hu.out hX.out) hx
      obtain ⟨gb, cb, eb, lb, y0⟩ := owni_at (k := k) (own_ext hv.out hX.out) hx
      cases ea
      cases eb
      haveI : In ga wr := ⟨la⟩
      haveI : In gb wr := ⟨lb⟩
      clear hx
      go_wp2_with fail
      refine wp_region_gw (by kernel_rfl) (by kernel_rfl) ?_
      repeat (go_big_quiet_step (fail))
      refine wpQuiet_nil ?_
      intro g4
      go_wp2_with fail
      go_roundg (l.length - (k + 1))
      case measure => omega
      case rel => exact ⟨k + 1, by go_num, by omega, hX.out.trans g4.grown⟩
    · have hge : (l.length : Int) ≤ k := by omega
      go_wp2_with fail
      go_returns
      exact ⟨by first | rfl | simp, hX.out⟩
end Go.Proofs.Ytjdbjnpomndfjaa
set_option linter.unusedVariables false
set_option linter.unusedSimpArgs false
namespace Go.Proofs.Ytjdbjnpomndfjaa
open Go.RowKit
attribute [local go_sem] GW.cell GW.frozen In.eq_true In.le_true In.ne In.ne' In.ne_add In.ne_add' In.lt_add Upto.le_true Upto.le_add Upto.lt_add
theorem hcnt_mono {h x y : Int} (hh : 1 ≤ h) (hxy : x ≤ y) : hcnt h x ≤ hcnt h y := by
  unfold hcnt
  split <;> split
  · omega
  · have : 0 ≤ (y - 1) / h := Int.ediv_nonneg (by omega) (by omega)
    omega
  · omega
  · have := Int.ediv_le_ediv (a := x - 1) (b := y - 1) (c := h) (by omega) (by omega)
    omega
theorem hbeg_in {h x : Int} (hh : 1 ≤ h) (hx : x ≤ 1125899906842624) : x ≤ hbeg h x ∧ 0 ≤ hbeg h x ∧ hbeg h x ≤ 1125899906842624 ∧ (0 < x → hbeg h x < x + h) ∧ (x ≤ 0 → hbeg h x = 0) := by
  obtain ⟨k1, k2, k3, k4⟩ := hcnt_in (h := h) (x := x) hh
  have k5 : 0 ≤ hcnt h x * h := Int.mul_nonneg k1 (by omega)
  unfold hbeg
  split
  · exact ⟨k2, k5, by omega, k3, fun hz => by rw [k4 hz]; simp⟩
  · refine ⟨hx, by omega, by omega, fun hp => ?_, fun hz => ?_⟩
    · have := k3 hp; omega
    · rename_i hn; rw [k4 hz] at hn; simp at hn
theorem hbeg_mono {h x y : Int} (hh : 1 ≤ h) (hxy : x ≤ y) : hbeg h x ≤ hbeg h y := by
  have h1 := Int.mul_le_mul_of_nonneg_right (hcnt_mono hh hxy) (show (0 : Int) ≤ h by omega)
  unfold hbeg
  split <;> split <;> omega
theorem hopV_in {s h t : Int} (he : hopE s h t = 0) : t - s < hopV s h t ∧ 0 ≤ hopV s h t ∧ hopV s h t ≤ 1125899906842624 ∧ (h ≤ s → hopV s h t ≤ t) ∧ htick t = true ∧ hlen s = true ∧ hlen h = true := by
  unfold hopE at he
  split at he
  · rename_i hb
    split at he
    · rename_i ht
      obtain ⟨s1, s2⟩ := hlen_iff.1 hb.1
      obtain ⟨h1, h2⟩ := hlen_iff.1 hb.2
      obtain ⟨t1, t2⟩ := htick_iff.1 ht
      obtain ⟨k1, k2, k3, k4, k5⟩ := hbeg_in (h := h) (x := t - s + 1) h1 (by omega)
      unfold hopV
      rw [if_pos ⟨hb.1, hb.2, ht⟩]
      refine ⟨?_, ?_, ?_, fun hs => ?_, ht, hb.1, hb.2⟩
      · split <;> omega
      · split <;> omega
      · split <;> omega
      · split
        · omega
        · by_cases hp : 0 < t - s + 1
          · have := k4 hp; omega
          · have := k5 (by omega); omega
    · omega
  · omega
theorem hopV_mono {s h t u : Int} (h1 : hopE s h t = 0) (h2 : hopE s h u = 0) (htu : t ≤ u) : hopV s h t ≤ hopV s h u := by
  obtain ⟨-, -, a3, -, a4, a5, a6⟩ := hopV_in h1
  obtain ⟨-, -, b3, -, b4, -, -⟩ := hopV_in h2
  by_cases hu : u = 1125899906842624
  · have e : hopV s h u = 1125899906842624 := by unfold hopV; rw [if_pos ⟨a5, a6, b4⟩, if_pos hu]
    omega
  · obtain ⟨-, u2⟩ := htick_iff.1 b4
    have ht : ¬ t = 1125899906842624 := by omega
    unfold hopV
    rw [if_pos ⟨a5, a6, a4⟩, if_neg ht, if_pos ⟨a5, a6, b4⟩, if_neg hu]
    exact hbeg_mono (hlen_iff.1 a6).1 (by omega)
abbrev HopLive : Prop := ∀ w, Calls Try.prog 26 #[] w fun e w' => e = .returned (.bool true) ∧ Ext w w'
set_option maxHeartbeats 4000000 in
set_option maxRecDepth 100000 in
theorem hopOpens_walk (hlive : HopLive) (s h t : Int) (w : World) : Calls Try.prog 6 #[.int .i64 s, .int .i64 h, .int .i64 t] w fun e w' => e = .returned (.bool true) ∧ Ext w w' := by
  have h1 := hide (fun w => hopen_c s h t w)
  have h2 := hide (fun w => hrefOpen_c s h t w)
  have h3 := hide hlive
  generalize hopV s h t = V at *
  generalize hopE s h t = E at *
  clear hlive
  go_enter Try.func6, Try.ntmps6
  go_wp2_with (first
    | (go_at_call 24; first | ((with_reducible refine seq_gw' (h1.out _) ?_); intro g1) | ((with_reducible refine seq_gw (h1.out _) ?_); intro g1))
    | (go_at_call 25; first | ((with_reducible refine seq_gw' (h2.out _) ?_); intro g2) | ((with_reducible refine seq_gw (h2.out _) ?_); intro g2))
    | (go_at_call 26; first | ((with_reducible refine seq_gw' (h3.out _) ?_); intro g3) | ((with_reducible refine seq_gw (h3.out _) ?_); intro g3)))
  go_returns
  exact ⟨by first | rfl | simp, g3.grown⟩
set_option maxHeartbeats 8000000 in
set_option maxRecDepth 100000 in
theorem hopLags_walk (hlive : HopLive) (s h t u : Int) (w : World) : Calls Try.prog 7 #[.int .i64 s, .int .i64 h, .int .i64 t, .int .i64 u] w fun e w' => e = .returned (.bool true) ∧ Ext w w' := by
  have h1 := hide (fun w => hopen_c s h t w)
  have h2 := hide (fun w => hopen_c s h u w)
  have h3 := hide hlive
  have m1 := hopV_in (s := s) (h := h) (t := t)
  have m2 := hopV_in (s := s) (h := h) (t := u)
  have m3 := hopV_mono (s := s) (h := h) (t := t) (u := u)
  generalize hV1 : hopV s h t = V at *
  generalize hE1 : hopE s h t = E at *
  generalize hV2 : hopV s h u = V2 at *
  generalize hE2 : hopE s h u = E2 at *
  clear hlive
  by_cases e1 : E = 0
  · by_cases e2 : E2 = 0
    · subst e1
      subst e2
      obtain ⟨a1, a2, a3, a4, a5, a6, -⟩ := m1 rfl
      obtain ⟨b1, b2, b3, -⟩ := m2 rfl
      have m4 := m3 rfl rfl
      obtain ⟨s1, s2⟩ := hlen_iff.1 a6
      obtain ⟨t1, t2⟩ := htick_iff.1 a5
      have c1 : ¬ V ≤ t - s := by omega
      have c2 : ¬ V < 0 := by omega
      clear m1 m2 m3 hV1 hE1 hV2 hE2
      by_cases d1 : h ≤ s
      · have a5' := a4 d1
        have c3 : ¬ t < V := by omega
        by_cases d2 : t ≤ u
        · have c4 : ¬ V2 < V := by have := m4 d2; omega
          go_enter Try.func7, Try.ntmps7
          go_wp2_with (first | (go_at_call 24; first | ((with_reducible refine seq_gw' (h1.out _) ?_); intro g1) | ((with_reducible refine seq_gw (h1.out _) ?_); intro g1) | ((with_reducible refine seq_gw' (h2.out _) ?_); intro g2) | ((with_reducible refine seq_gw (h2.out _) ?_); intro g2)) | (go_at_call 26; first | ((with_reducible refine seq_gw' (h3.out _) ?_); intro g3) | ((with_reducible refine seq_gw (h3.out _) ?_); intro g3)))
          go_returns
          exact ⟨by first | rfl | simp, g3.grown⟩
        · go_enter Try.func7, Try.ntmps7
          go_wp2_with (first | (go_at_call 24; first | ((with_reducible refine seq_gw' (h1.out _) ?_); intro g1) | ((with_reducible refine seq_gw (h1.out _) ?_); intro g1) | ((with_reducible refine seq_gw' (h2.out _) ?_); intro g2) | ((with_reducible refine seq_gw (h2.out _) ?_); intro g2)) | (go_at_call 26; first | ((with_reducible refine seq_gw' (h3.out _) ?_); intro g3) | ((with_reducible refine seq_gw (h3.out _) ?_); intro g3)))
          go_returns
          exact ⟨by first | rfl | simp, g3.grown⟩
      · by_cases d2 : t ≤ u
        · have c4 : ¬ V2 < V := by have := m4 d2; omega
          go_enter Try.func7, Try.ntmps7
          go_wp2_with (first | (go_at_call 24; first | ((with_reducible refine seq_gw' (h1.out _) ?_); intro g1) | ((with_reducible refine seq_gw (h1.out _) ?_); intro g1) | ((with_reducible refine seq_gw' (h2.out _) ?_); intro g2) | ((with_reducible refine seq_gw (h2.out _) ?_); intro g2)) | (go_at_call 26; first | ((with_reducible refine seq_gw' (h3.out _) ?_); intro g3) | ((with_reducible refine seq_gw (h3.out _) ?_); intro g3)))
          go_returns
          exact ⟨by first | rfl | simp, g3.grown⟩
        · go_enter Try.func7, Try.ntmps7
          go_wp2_with (first | (go_at_call 24; first | ((with_reducible refine seq_gw' (h1.out _) ?_); intro g1) | ((with_reducible refine seq_gw (h1.out _) ?_); intro g1) | ((with_reducible refine seq_gw' (h2.out _) ?_); intro g2) | ((with_reducible refine seq_gw (h2.out _) ?_); intro g2)) | (go_at_call 26; first | ((with_reducible refine seq_gw' (h3.out _) ?_); intro g3) | ((with_reducible refine seq_gw (h3.out _) ?_); intro g3)))
          go_returns
          exact ⟨by first | rfl | simp, g3.grown⟩
    · clear m1 m2 m3 hV1 hE1 hV2 hE2
      go_enter Try.func7, Try.ntmps7
      go_wp2_with (first | (go_at_call 24; first | ((with_reducible refine seq_gw' (h1.out _) ?_); intro g1) | ((with_reducible refine seq_gw (h1.out _) ?_); intro g1) | ((with_reducible refine seq_gw' (h2.out _) ?_); intro g2) | ((with_reducible refine seq_gw (h2.out _) ?_); intro g2)) | (go_at_call 26; first | ((with_reducible refine seq_gw' (h3.out _) ?_); intro g3) | ((with_reducible refine seq_gw (h3.out _) ?_); intro g3)))
      go_returns
      exact ⟨by first | rfl | simp, g3.grown⟩
  · clear m1 m2 m3 hV1 hE1 hV2 hE2
    go_enter Try.func7, Try.ntmps7
    go_wp2_with (first | (go_at_call 24; first | ((with_reducible refine seq_gw' (h1.out _) ?_); intro g1) | ((with_reducible refine seq_gw (h1.out _) ?_); intro g1) | ((with_reducible refine seq_gw' (h2.out _) ?_); intro g2) | ((with_reducible refine seq_gw (h2.out _) ?_); intro g2)) | (go_at_call 26; first | ((with_reducible refine seq_gw' (h3.out _) ?_); intro g3) | ((with_reducible refine seq_gw (h3.out _) ?_); intro g3)))
    go_returns
    exact ⟨by first | rfl | simp, g3.grown⟩
end Go.Proofs.Ytjdbjnpomndfjaa
