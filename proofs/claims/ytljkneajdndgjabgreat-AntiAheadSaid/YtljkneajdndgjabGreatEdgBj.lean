/-
  A helper of ours: no claim of its own. Layer 10 (edge): edges of a row with a function, and a row's jumps, by the code.
-/
import Derived.Test.YtljkneajdndgjabGreatAntC
import Derived.Test.YtljkneajdndgjabGreatValQ
import Derived.Test.YtljkneajdndgjabGreatEdgM
import Derived.Test.YtljkneajdndgjabGreatEvaY
import Derived.Test.YtljkneajdndgjabGreatEdgEg
import Derived.Test.YtljkneajdndgjabGreatStepC
import Derived.Test.YtljkneajdndgjabGreatDrRowD
import Derived.Test.YtljkneajdndgjabGreatEdgB
import Derived.Test.YtljkneajdndgjabGreatSortE
import Derived.Test.YtljkneajdndgjabGreatReg4
set_option linter.unusedVariables false
set_option linter.unusedSimpArgs false
namespace Go.Proofs.YtljkneajdndgjabGreat
open Go.RowKit
attribute [local go_sem] GW.cell GW.frozen In.eq_true In.le_true In.ne In.ne' In.ne_add In.ne_add' In.lt_add Upto.le_true Upto.le_add Upto.lt_add
/-- Partners' answer. -/
def apE (r : List Vl) (f : List Jp) (l : List Ed) (x : List Vl) : Int := if (mayR r && mayJ f && mayE l) = true then (if tabE l = true then (if formE x = 0 then (pGo r f x (grp l) []).1 else formE x) else 20) else 2
def apR (r : List Vl) (f : List Jp) (l : List Ed) (x : List Vl) : List Jp := if (mayR r && mayJ f && mayE l) = true then (if tabE l = true then (if formE x = 0 then (pGo r f x (grp l) []).2 else []) else []) else []
/-- The function of a row where it has no partner. -/
def woE (r : List Vl) (f : List Jp) (x : List Vl) (G : List Gp) : Int := if (pGo r f x G []).1 = 0 then twE whO f (pGo r f x G []).2 else (pGo r f x G []).1
def woR (r : List Vl) (f : List Jp) (x : List Vl) (G : List Gp) : List Jp := if (pGo r f x G []).1 = 0 then twR whO f (pGo r f x G []).2 else []
set_option maxHeartbeats 4000000 in
set_option maxRecDepth 100000 in
theorem without_c (r ws : List Vl) (f : List Jp) (L : List Ve) (hri : ∀ v ∈ r, inW v) (hi : ∀ v ∈ ws, inW v) (hGi : ∀ g ∈ grp (eds L), ∀ v ∈ g.1, inW v) (v vr vf vx : Value) (w : World) (b : Nat) (hr : Rw w [] vr r) (hf : Jw w [] vf f) (hx : Rw w [] vx ws) (hC : Ew w [] v L) (hb : Ob w b 22 [v]) (hz : L.length ≤ 1000000000) (hG : ∀ g ∈ grp (eds L), g.1.length ≤ 1000000) :
    Calls Tryz.prog 59 #[vr, vf, .func (.func 104) #[] #[.pointer (some ⟨b, 0, none⟩)], vx] w fun e w' => ∃ v', e = .returned (.tuple #[v', .int .i64 (woE r f ws (grp (eds L)))]) ∧ OwnJ w' w.heap.size v' (woR r f ws (grp (eds L))) ∧ Ext w w' := by
  have hp := hide (partners_c r ws f L hri hi hGi v vr vf vx w b hr hf hx hC hb hz hG)
  have hwh := hide (fun S u w' (hX : Ext w w') (hu : Jw w' [] u S) => stepWhere_c f S vf u w' (Sl.ext hf hX) hu)
  clear hri hi hGi hr hf hx hC hb hz hG
  unfold woE woR
  obtain ⟨⟨E, S⟩, hP⟩ : ∃ P, P = pGo r f ws (grp (eds L)) [] := ⟨_, rfl⟩
  rw [← hP] at hp ⊢
  clear hP
  dsimp only at hp ⊢
  replace hwh := hide (fun u w' (hX : Ext w w') (hu : Jw w' [] u S) => hwh.out S u w' hX hu)
  obtain ⟨F, hF⟩ : ∃ F, F = twE whO f S := ⟨_, rfl⟩
  obtain ⟨R, hR⟩ : ∃ R, R = twR whO f S := ⟨_, rfl⟩
  rw [← hF, ← hR] at hwh ⊢
  clear hF hR
  by_cases hE : E = 0
  case neg =>
    rw [if_neg hE, if_neg hE]
    have hE' : (E != 0) = true := by simpa using hE
    clear hE hwh
    go_enter Tryz.func59, Tryz.ntmps59
    go_wp2_with (go_at_call 55; refine hp.out.mono ?_; rintro ee w1 ⟨v1, rfl, ho1, hx1⟩; obtain ⟨A1, c1, rfl⟩ := own_form ho1)
    go_returns
    exact ⟨_, rfl, World.ownsRow_nil _ _ _ _, hx1⟩
  subst hE
  rw [if_pos rfl, if_pos rfl]
  go_enter Tryz.func59, Tryz.ntmps59
  go_wp2_with (first | (go_at_call 55; refine hp.out.mono ?_; rintro ee w1 ⟨v1, rfl, ho1, hx1⟩; have hj1 := hide (own_jw ho1 (S := []) (by simp)); obtain ⟨A1, c1, rfl⟩ := own_form ho1; have hx1' := hide hx1; clear ho1 hx1) | (go_at_call 107; refine (hwh.out _ _ hx1'.out hj1.out).mono ?_; rintro ee w2 ⟨v2, rfl, ho2, hx2⟩; have hz2 := hx1'.out.size))
  go_returns
  exact ⟨_, rfl, own_base ho2 hz2, hx1'.out.trans hx2⟩
set_option maxHeartbeats 4000000 in
set_option maxRecDepth 100000 in
theorem antPartners_c (r ws : List Vl) (f : List Jp) (L : List Ve) (hri : ∀ v ∈ r, inW v) (hi : ∀ v ∈ ws, inW v) (hGi : ∀ g ∈ grp (eds L), ∀ v ∈ g.1, inW v) (v vr vf vx : Value) (w : World) (hr : Rw w [] vr r) (hf : Jw w [] vf f) (hC : Ew w [] v L) (hx : Rw w [] vx ws) :
    Calls Tryz.prog 25 #[vr, vf, v, vx] w fun e w' => ∃ v', e = .returned (.tuple #[v', .int .i64 (apE r f (eds L) ws)]) ∧ OwnJ w' w.heap.size v' (apR r f (eds L) ws) ∧ Ext w w' := by
  have h1 := hide (rowMay_c r vr w hr)
  have h2 := hide (fun w' (hX : Ext w w') => stepMay_c f vf w' (Sl.ext hf hX))
  have h3 := hide (fun w' (hX : Ext w w') => edgeMay_c L v w' (hC.ext hX))
  have h4 := hide (fun w' (hX : Ext w w') => edgeTable_c L v w' (hC.ext hX))
  have h5 := hide (fun w' (hX : Ext w w') => form_c ws vx w' (Sl.ext hx hX))
  have h6 := hide (fun w' (hX : Ext w w') => groups_c L v w' (hC.ext hX))
  have h7 := hide (fun (ha : mayE (eds L) = true) w' b v' M (hX : Ext w w') (hb : Ob w' b 22 [v']) (hM : eds M = eds L) (hE : Ew w' [] v' M) =>
    (show Calls Tryz.prog 55 #[vr, vf, .func (.func 104) #[] #[.pointer (some ⟨b, 0, none⟩)], vx] w' fun e w'' => ∃ v', e = .returned (.tuple #[v', .int .i64 (pGo r f ws (grp (eds L)) []).1]) ∧ OwnJ w'' w'.heap.size v' (pGo r f ws (grp (eds L)) []).2 ∧ Ext w' w'' by
      have hl := mayE_len ha
      have := partners_c r ws f M hri hi (by rw [hM]; exact hGi) v' vr vf vx w' b (Sl.ext hr hX) (Sl.ext hf hX) (Sl.ext hx hX) hE hb (by have := congrArg List.length hM; simp only [eds, List.length_map] at this hl; omega) (fun g hg => by rw [hM] at hg; have := grp_r8 ha g hg; omega)
      rw [hM] at this
      exact this))
  obtain ⟨RA, rcap, rfl, -, -, -⟩ := rw_form hr
  obtain ⟨FA, fcap, rfl, -, -, -⟩ := jw_form hf
  obtain ⟨XA, xcap, rfl, -, -, -⟩ := rw_form hx
  obtain ⟨LA, lcap, rfl, -, -, -⟩ := ew_form hC
  clear hr hf hC hx hri hi hGi
  unfold apE apR
  obtain ⟨⟨E, S⟩, hP⟩ : ∃ P, P = pGo r f ws (grp (eds L)) [] := ⟨_, rfl⟩
  rw [← hP] at h7 ⊢
  clear hP
  dsimp only at h7 ⊢
  obtain ⟨F, hF⟩ : ∃ F, F = formE ws := ⟨_, rfl⟩
  rw [← hF] at h5 ⊢
  clear hF
  cases ha : mayR r
  · rw [ha] at h1
    clear h2 h3 h4 h5 h6 h7 ha
    go_enter Tryz.func25, Tryz.ntmps25
    go_wp2_with (go_at_call 53; (with_reducible refine seq_gw h1.out ?_); intro g)
    go_returns
    exact ⟨_, rfl, World.ownsRow_nil _ _ _ _, g.grown⟩
  rw [ha] at h1
  clear ha
  cases hb : mayJ f
  · rw [hb] at h2
    clear h3 h4 h5 h6 h7 hb
    go_enter Tryz.func25, Tryz.ntmps25
    go_wp2_with (first | (go_at_call 53; (with_reducible refine seq_gw h1.out ?_); intro g) | (go_at_call 54; (with_reducible refine seq_gw' (h2.out _ g.grown) ?_); intro g2))
    go_returns
    exact ⟨_, rfl, World.ownsRow_nil _ _ _ _, g2.grown⟩
  rw [hb] at h2
  clear hb
  cases hc : mayE (eds L)
  · rw [hc] at h3
    clear h4 h5 h6 h7 hc
    go_enter Tryz.func25, Tryz.ntmps25
    go_wp2_with (first | (go_at_call 53; (with_reducible refine seq_gw h1.out ?_); intro g) | (go_at_call 54; (with_reducible refine seq_gw' (h2.out _ g.grown) ?_); intro g2) | (go_at_call 31; (with_reducible refine seq_gw' (h3.out _ g2.grown) ?_); intro g3))
    go_returns
    exact ⟨_, rfl, World.ownsRow_nil _ _ _ _, g3.grown⟩
  rw [hc] at h3
  have hc' := hide hc
  replace h7 := hide (h7.out hc)
  clear hc
  cases hd : tabE (eds L)
  · rw [hd] at h4
    clear h5 h6 h7 hd
    go_enter Tryz.func25, Tryz.ntmps25
    go_wp2_with (first | (go_at_call 53; (with_reducible refine seq_gw h1.out ?_); intro g) | (go_at_call 54; (with_reducible refine seq_gw' (h2.out _ g.grown) ?_); intro g2) | (go_at_call 31; (with_reducible refine seq_gw' (h3.out _ g2.grown) ?_); intro g3) | (go_at_call 30; (with_reducible refine seq_gw' (h4.out _ g3.grown) ?_); intro g4))
    go_returns
    exact ⟨_, rfl, World.ownsRow_nil _ _ _ _, g4.grown⟩
  rw [hd] at h4
  clear hd
  by_cases he : F = 0
  case neg =>
    have he' : (F != 0) = true := by simpa using he
    rw [if_pos (by rfl), if_pos rfl, if_neg he, if_pos (by rfl), if_pos rfl, if_neg he]
    clear h6 h7 he
    go_enter Tryz.func25, Tryz.ntmps25
    go_wp2_with (first | (go_at_call 53; (with_reducible refine seq_gw h1.out ?_); intro g) | (go_at_call 54; (with_reducible refine seq_gw' (h2.out _ g.grown) ?_); intro g2) | (go_at_call 31; (with_reducible refine seq_gw' (h3.out _ g2.grown) ?_); intro g3) | (go_at_call 30; (with_reducible refine seq_gw' (h4.out _ g3.grown) ?_); intro g4) | (go_at_call 32; (with_reducible refine seq_gw' (h5.out _ g4.grown) ?_); intro g5))
    go_returns
    exact ⟨_, rfl, World.ownsRow_nil _ _ _ _, g5.grown⟩
  subst he
  rw [if_pos (by rfl), if_pos rfl, if_pos rfl, if_pos (by rfl), if_pos rfl, if_pos rfl]
  go_enter Tryz.func25, Tryz.ntmps25
  go_wp2_with (first | (go_at_call 53; (with_reducible refine seq_gw h1.out ?_); intro g) | (go_at_call 54; (with_reducible refine seq_gw' (h2.out _ g.grown) ?_); intro g2) | (go_at_call 31; (with_reducible refine seq_gw' (h3.out _ g2.grown) ?_); intro g3) | (go_at_call 30; (with_reducible refine seq_gw' (h4.out _ g3.grown) ?_); intro g4) | (go_at_call 32; (with_reducible refine seq_gw' (h5.out _ g4.grown) ?_); intro g5) | (go_at_call 56; refine (h6.out _ g5.grown).mono ?_; rintro ee w6 ⟨b, rfl, v6, M, hb6, hM, hMe, hX6⟩; rw [if_pos hc'.out] at hM; have hx6 := hide (g5.grown.trans hX6); have hcall := hide (h7.out w6 b v6 M hx6.out hb6 hM hMe); clear hb6 hM hMe hX6) | (go_at_call 55; refine hcall.out.mono ?_; rintro ee w7 ⟨v7, rfl, ho7, hX7⟩; have hz6 := hx6.out.size))
  go_returns
  exact ⟨_, rfl, own_base ho7 hz6, hx6.out.trans hX7⟩
end Go.Proofs.YtljkneajdndgjabGreat
set_option linter.unusedVariables false
set_option linter.unusedSimpArgs false
namespace Go.Proofs.YtljkneajdndgjabGreat
open Go.RowKit
attribute [local go_sem] GW.cell GW.frozen In.eq_true In.le_true In.ne In.ne' In.ne_add In.ne_add' In.lt_add Upto.le_true Upto.le_add Upto.lt_add
end Go.Proofs.YtljkneajdndgjabGreat
set_option linter.unusedVariables false
set_option linter.unusedSimpArgs false
namespace Go.Proofs.YtljkneajdndgjabGreat
open Go.RowKit
attribute [local go_sem] GW.cell GW.frozen In.eq_true In.le_true In.ne In.ne' In.ne_add In.ne_add' In.lt_add Upto.le_true Upto.le_add Upto.lt_add
theorem hoX_bad {l r : List Vl} (h : (hoX l r).2 ≠ 0) : (hoX l r).1 = false := by
  unfold hoX at h ⊢
  split
  · split
    · rename_i h1 h2
      rw [if_pos h1, if_pos h2] at h
      exact absurd rfl h
    · rfl
  · rfl
end Go.Proofs.YtljkneajdndgjabGreat
set_option linter.unusedVariables false
set_option linter.unusedSimpArgs false
namespace Go.Proofs.YtljkneajdndgjabGreat.Dr
open Go.RowKit
attribute [local go_sem] GW.cell GW.frozen In.eq_true In.le_true In.ne In.ne' In.ne_add In.ne_add' In.lt_add Upto.le_true Upto.le_add Upto.lt_add
end Go.Proofs.YtljkneajdndgjabGreat.Dr
namespace Go.Proofs.YtljkneajdndgjabGreat
open Go.RowKit
/-- An edge whose row is one, and lies elsewhere than in block g. -/
abbrev SE (w : World) (g : Nat) := { p : Ve // Rw w [g] p.1 p.2.1 ∧ mayR p.2.1 = true }
instance (w : World) (g : Nat) : Inhabited (SE w g) := ⟨⟨(.slice none 0 0, [], (0, 0)), Sl.nil w [g] 3, rfl⟩⟩
end Go.Proofs.YtljkneajdndgjabGreat
set_option linter.unusedVariables false
set_option linter.unusedSimpArgs false
namespace Go.Proofs.YtljkneajdndgjabGreat
open Go.RowKit
attribute [local go_sem] GW.cell GW.frozen In.eq_true In.le_true In.ne In.ne' In.ne_add In.ne_add' In.lt_add Upto.le_true Upto.le_add Upto.lt_add
end Go.Proofs.YtljkneajdndgjabGreat
set_option linter.unusedVariables false
set_option linter.unusedSimpArgs false
namespace Go.Proofs.YtljkneajdndgjabGreat
open Go.RowKit
attribute [local go_sem] GW.cell GW.frozen In.eq_true In.le_true In.ne In.ne' In.ne_add In.ne_add' In.lt_add Upto.le_true Upto.le_add Upto.lt_add
end Go.Proofs.YtljkneajdndgjabGreat
set_option linter.unusedVariables false
set_option linter.unusedSimpArgs false
namespace Go.Proofs.YtljkneajdndgjabGreat
open Go.RowKit
attribute [local go_sem] GW.cell GW.frozen In.eq_true In.le_true In.ne In.ne' In.ne_add In.ne_add' In.lt_add Upto.le_true Upto.le_add Upto.lt_add Oper.semAt_some wide_depth wide_fn
set_option maxHeartbeats 4000000 in
set_option maxRecDepth 100000 in
theorem edgeBuild_c (r : List Vl) (f : List Jp) (u v : Value) (w : World) (hr : Rw w [] u r) (hf : Jw w [] v f) : Calls Tryz.prog 37 #[u, v] w fun e w' => ∃ v' M, e = .returned v' ∧ eds M = (if mayR r && mayJ f then f.map (fun j => (r, j)) else []) ∧ OwnEr w' w.heap.size v' M ∧ Ext w w' := by
  have h1 := hide (rowMay_c r u w hr)
  have h2 := hide (fun w' (hX : Ext w w') => stepMay_c f v w' (Sl.ext hf hX))
  have hr' := hide hr
  have hf' := hide hf
  obtain ⟨U, ucap, rfl⟩ := rw_val hr
  obtain ⟨V, vcap, rfl, -, -, -⟩ := jw_form hf
  obtain ⟨R, hR⟩ : ∃ R, R = (if mayR r && mayJ f then f.map (fun j => (r, j)) else []) := ⟨_, rfl⟩
  rw [← hR]
  clear hr hf
  cases ha : mayR r
  · rw [ha] at h1
    replace hR := hide (show eds [] = R by rw [hR, ha]; rfl)
    go_enter Tryz.func37, Tryz.ntmps37
    go_wp2_with (go_at_call 53; (with_reducible refine seq_gw h1.out ?_); intro g)
    go_returns
    exact ⟨_, [], rfl, hR.out, OwnEr.nil _ _, g.grown⟩
  rw [ha] at h1
  have hr8 := mayR_len ha
  cases hb : mayJ f
  · rw [hb] at h2
    replace hR := hide (show eds [] = R by rw [hR, ha, hb]; rfl)
    go_enter Tryz.func37, Tryz.ntmps37
    go_wp2_with (first | (go_at_call 53; (with_reducible refine seq_gw h1.out ?_); intro g) | (go_at_call 54; (with_reducible refine seq_gw' (h2.out _ g.grown) ?_); intro g2))
    go_returns
    exact ⟨_, [], rfl, hR.out, OwnEr.nil _ _, g2.grown⟩
  rw [hb] at h2
  have hfl := mayJ_len hb
  replace hR := hide (show (f.map fun j => (r, j)) = R by rw [hR, ha, hb]; rfl)
  go_enter Tryz.func37, Tryz.ntmps37
  go_wp2_with (first | (go_at_call 53; (with_reducible refine seq_gw h1.out ?_); intro g) | (go_at_call 54; (with_reducible refine seq_gw' (h2.out _ g.grown) ?_); intro g2) | (go_at_call 77; refine (edgesOf_c r f _ _ _ (Sl.ext hr'.out g2.grown) hr8 (Sl.ext hf'.out g2.grown) (by omega)).mono ?_; rintro ee w3 ⟨v3, M, rfl, hM, ho3, hX3⟩))
  go_returns
  exact ⟨_, M, rfl, hM.trans hR.out, ho3.lower g2.grown.size, g2.grown.trans hX3⟩

end Go.Proofs.YtljkneajdndgjabGreat
