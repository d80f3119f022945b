/-
  A helper of ours: no claim of its own. Layer 10 (edge): which edges are in form, which are a table, by the document.
-/
import Derived.Test.YtljkneajdndgjabGreatAntC
import Derived.Test.YtljkneajdndgjabGreatExpB
import Derived.Test.YtljkneajdndgjabGreatSpanA
import Derived.Test.YtljkneajdndgjabGreatEdgRo
import Derived.Test.YtljkneajdndgjabGreatEvaP
import Derived.Test.YtljkneajdndgjabGreatAntB
import Derived.Test.YtljkneajdndgjabGreatStepC
set_option linter.unusedVariables false
set_option linter.unusedSimpArgs false
namespace Go.Proofs.YtljkneajdndgjabGreat
open Go.RowKit
attribute [local go_sem] GW.cell GW.frozen In.eq_true In.le_true In.ne In.ne' In.ne_add In.ne_add' In.lt_add Upto.le_true Upto.le_add Upto.lt_add
/-- Partners' answer. -/
def apE (r : List Vl) (f : List Jp) (l : List Ed) (x : List Vl) : Int := if (mayR r && mayJ f && mayE l) = true then (if tabE l = true then (if formE x = 0 then (pGo r f x (grp l) []).1 else formE x) else 20) else 2
def apR (r : List Vl) (f : List Jp) (l : List Ed) (x : List Vl) : List Jp := if (mayR r && mayJ f && mayE l) = true then (if tabE l = true then (if formE x = 0 then (pGo r f x (grp l) []).2 else []) else []) else []
/-- The function of a row where it has no partner. -/
def woE (r : List Vl) (f : List Jp) (x : List Vl) (G : List Gp) : Int := if (pGo r f x G []).1 = 0 then twE whO f (pGo r f x G []).2 else (pGo r f x G []).1
def woR (r : List Vl) (f : List Jp) (x : List Vl) (G : List Gp) : List Jp := if (pGo r f x G []).1 = 0 then twR whO f (pGo r f x G []).2 else []
set_option maxHeartbeats 4000000 in
set_option maxRecDepth 100000 in
theorem without_c (r ws : List Vl) (f : List Jp) (L : List Ve) (hri : ∀ v ∈ r, inW v) (hi : ∀ v ∈ ws, inW v) (hGi : ∀ g ∈ grp (eds L), ∀ v ∈ g.1, inW v) (v vr vf vx : Value) (w : World) (b : Nat) (hr : Rw w [] vr r) (hf : Jw w [] vf f) (hx : Rw w [] vx ws) (hC : Ew w [] v L) (hb : Ob w b 22 [v]) (hz : L.length ≤ 1000000000) (hG : ∀ g ∈ grp (eds L), g.1.length ≤ 1000000) :
    Calls Tryz.prog 59 #[vr, vf, .func (.func 104) #[] #[.pointer (some ⟨b, 0, none⟩)], vx] w fun e w' => ∃ v', e = .returned (.tuple #[v', .int .i64 (woE r f ws (grp (eds L)))]) ∧ OwnJ w' w.heap.size v' (woR r f ws (grp (eds L))) ∧ Ext w w' := by
  have hp := hide (partners_c r ws f L hri hi hGi v vr vf vx w b hr hf hx hC hb hz hG)
  have hwh := hide (fun S u w' (hX : Ext w w') (hu : Jw w' [] u S) => stepWhere_c f S vf u w' (Sl.ext hf hX) hu)
  clear hri hi hGi hr hf hx hC hb hz hG
  unfold woE woR
  obtain ⟨⟨E, S⟩, hP⟩ : ∃ P, P = pGo r f ws (grp (eds L)) [] := ⟨_, rfl⟩
  rw [← hP] at hp ⊢
  clear hP
  dsimp only at hp ⊢
  replace hwh := hide (fun u w' (hX : Ext w w') (hu : Jw w' [] u S) => hwh.out S u w' hX hu)
  obtain ⟨F, hF⟩ : ∃ F, F = twE whO f S := ⟨_, rfl⟩
  obtain ⟨R, hR⟩ : ∃ R, R = twR whO f S := ⟨_, rfl⟩
  rw [← hF, ← hR] at hwh ⊢
  clear hF hR
  by_cases hE : E = 0
  case neg =>
    rw [if_neg hE, if_neg hE]
    have hE' : (E != 0) = true := by simpa using hE
    clear hE hwh
    go_enter Tryz.func59, Tryz.ntmps59
    go_wp2_with (go_at_call 55; refine hp.out.mono ?_; rintro ee w1 ⟨v1, rfl, ho1, hx1⟩; obtain ⟨A1, c1, rfl⟩ := own_form ho1)
    go_returns
    exact ⟨_, rfl, World.ownsRow_nil _ _ _ _, hx1⟩
  subst hE
  rw [if_pos rfl, if_pos rfl]
  go_enter Tryz.func59, Tryz.ntmps59
  go_wp2_with (first | (go_at_call 55; refine hp.out.mono ?_; rintro ee w1 ⟨v1, rfl, ho1, hx1⟩; have hj1 := hide (own_jw ho1 (S := []) (by simp)); obtain ⟨A1, c1, rfl⟩ := own_form ho1; have hx1' := hide hx1; clear ho1 hx1) | (go_at_call 107; refine (hwh.out _ _ hx1'.out hj1.out).mono ?_; rintro ee w2 ⟨v2, rfl, ho2, hx2⟩; have hz2 := hx1'.out.size))
  go_returns
  exact ⟨_, rfl, own_base ho2 hz2, hx1'.out.trans hx2⟩
set_option maxHeartbeats 4000000 in
set_option maxRecDepth 100000 in
theorem antPartners_c (r ws : List Vl) (f : List Jp) (L : List Ve) (hri : ∀ v ∈ r, inW v) (hi : ∀ v ∈ ws, inW v) (hGi : ∀ g ∈ grp (eds L), ∀ v ∈ g.1, inW v) (v vr vf vx : Value) (w : World) (hr : Rw w [] vr r) (hf : Jw w [] vf f) (hC : Ew w [] v L) (hx : Rw w [] vx ws) :
    Calls Tryz.prog 25 #[vr, vf, v, vx] w fun e w' => ∃ v', e = .returned (.tuple #[v', .int .i64 (apE r f (eds L) ws)]) ∧ OwnJ w' w.heap.size v' (apR r f (eds L) ws) ∧ Ext w w' := by
  have h1 := hide (rowMay_c r vr w hr)
  have h2 := hide (fun w' (hX : Ext w w') => stepMay_c f vf w' (Sl.ext hf hX))
  have h3 := hide (fun w' (hX : Ext w w') => edgeMay_c L v w' (hC.ext hX))
  have h4 := hide (fun w' (hX : Ext w w') => edgeTable_c L v w' (hC.ext hX))
  have h5 := hide (fun w' (hX : Ext w w') => form_c ws vx w' (Sl.ext hx hX))
  have h6 := hide (fun w' (hX : Ext w w') => groups_c L v w' (hC.ext hX))
  have h7 := hide (fun (ha : mayE (eds L) = true) w' b v' M (hX : Ext w w') (hb : Ob w' b 22 [v']) (hM : eds M = eds L) (hE : Ew w' [] v' M) =>
    (show Calls Tryz.prog 55 #[vr, vf, .func (.func 104) #[] #[.pointer (some ⟨b, 0, none⟩)], vx] w' fun e w'' => ∃ v', e = .returned (.tuple #[v', .int .i64 (pGo r f ws (grp (eds L)) []).1]) ∧ OwnJ w'' w'.heap.size v' (pGo r f ws (grp (eds L)) []).2 ∧ Ext w' w'' by
      have hl := mayE_len ha
      have := partners_c r ws f M hri hi (by rw [hM]; exact hGi) v' vr vf vx w' b (Sl.ext hr hX) (Sl.ext hf hX) (Sl.ext hx hX) hE hb (by have := congrArg List.length hM; simp only [eds, List.length_map] at this hl; omega) (fun g hg => by rw [hM] at hg; have := grp_r8 ha g hg; omega)
      rw [hM] at this
      exact this))
  obtain ⟨RA, rcap, rfl, -, -, -⟩ := rw_form hr
  obtain ⟨FA, fcap, rfl, -, -, -⟩ := jw_form hf
  obtain ⟨XA, xcap, rfl, -, -, -⟩ := rw_form hx
  obtain ⟨LA, lcap, rfl, -, -, -⟩ := ew_form hC
  clear hr hf hC hx hri hi hGi
  unfold apE apR
  obtain ⟨⟨E, S⟩, hP⟩ : ∃ P, P = pGo r f ws (grp (eds L)) [] := ⟨_, rfl⟩
  rw [← hP] at h7 ⊢
  clear hP
  dsimp only at h7 ⊢
  obtain ⟨F, hF⟩ : ∃ F, F = formE ws := ⟨_, rfl⟩
  rw [← hF] at h5 ⊢
  clear hF
  cases ha : mayR r
  · rw [ha] at h1
    clear h2 h3 h4 h5 h6 h7 ha
    go_enter Tryz.func25, Tryz.ntmps25
    go_wp2_with (go_at_call 53; (with_reducible refine seq_gw h1.out ?_); intro g)
    go_returns
    exact ⟨_, rfl, World.ownsRow_nil _ _ _ _, g.grown⟩
  rw [ha] at h1
  clear ha
  cases hb : mayJ f
  · rw [hb] at h2
    clear h3 h4 h5 h6 h7 hb
    go_enter Tryz.func25, Tryz.ntmps25
    go_wp2_with (first | (go_at_call 53; (with_reducible refine seq_gw h1.out ?_); intro g) | (go_at_call 54; (with_reducible refine seq_gw' (h2.out _ g.grown) ?_); intro g2))
    go_returns
    exact ⟨_, rfl, World.ownsRow_nil _ _ _ _, g2.grown⟩
  rw [hb] at h2
  clear hb
  cases hc : mayE (eds L)
  · rw [hc] at h3
    clear h4 h5 h6 h7 hc
    go_enter Tryz.func25, Tryz.ntmps25
    go_wp2_with (first | (go_at_call 53; (with_reducible refine seq_gw h1.out ?_); intro g) | (go_at_call 54; (with_reducible refine seq_gw' (h2.out _ g.grown) ?_); intro g2) | (go_at_call 31; (with_reducible refine seq_gw' (h3.out _ g2.grown) ?_); intro g3))
    go_returns
    exact ⟨_, rfl, World.ownsRow_nil _ _ _ _, g3.grown⟩
  rw [hc] at h3
  have hc' := hide hc
  replace h7 := hide (h7.out hc)
  clear hc
  cases hd : tabE (eds L)
  · rw [hd] at h4
    clear h5 h6 h7 hd
    go_enter Tryz.func25, Tryz.ntmps25
    go_wp2_with (first | (go_at_call 53; (with_reducible refine seq_gw h1.out ?_); intro g) | (go_at_call 54; (with_reducible refine seq_gw' (h2.out _ g.grown) ?_); intro g2) | (go_at_call 31; (with_reducible refine seq_gw' (h3.out _ g2.grown) ?_); intro g3) | (go_at_call 30; (with_reducible refine seq_gw' (h4.out _ g3.grown) ?_); intro g4))
    go_returns
    exact ⟨_, rfl, World.ownsRow_nil _ _ _ _, g4.grown⟩
  rw [hd] at h4
  clear hd
  by_cases he : F = 0
  case neg =>
    have he' : (F != 0) = true := by simpa using he
    rw [if_pos (by rfl), if_pos rfl, if_neg he, if_pos (by rfl), if_pos rfl, if_neg he]
    clear h6 h7 he
    go_enter Tryz.func25, Tryz.ntmps25
    go_wp2_with (first | (go_at_call 53; (with_reducible refine seq_gw h1.out ?_); intro g) | (go_at_call 54; (with_reducible refine seq_gw' (h2.out _ g.grown) ?_); intro g2) | (go_at_call 31; (with_reducible refine seq_gw' (h3.out _ g2.grown) ?_); intro g3) | (go_at_call 30; (with_reducible refine seq_gw' (h4.out _ g3.grown) ?_); intro g4) | (go_at_call 32; (with_reducible refine seq_gw' (h5.out _ g4.grown) ?_); intro g5))
    go_returns
    exact ⟨_, rfl, World.ownsRow_nil _ _ _ _, g5.grown⟩
  subst he
  rw [if_pos (by rfl), if_pos rfl, if_pos rfl, if_pos (by rfl), if_pos rfl, if_pos rfl]
  go_enter Tryz.func25, Tryz.ntmps25
  go_wp2_with (first | (go_at_call 53; (with_reducible refine seq_gw h1.out ?_); intro g) | (go_at_call 54; (with_reducible refine seq_gw' (h2.out _ g.grown) ?_); intro g2) | (go_at_call 31; (with_reducible refine seq_gw' (h3.out _ g2.grown) ?_); intro g3) | (go_at_call 30; (with_reducible refine seq_gw' (h4.out _ g3.grown) ?_); intro g4) | (go_at_call 32; (with_reducible refine seq_gw' (h5.out _ g4.grown) ?_); intro g5) | (go_at_call 56; refine (h6.out _ g5.grown).mono ?_; rintro ee w6 ⟨b, rfl, v6, M, hb6, hM, hMe, hX6⟩; rw [if_pos hc'.out] at hM; have hx6 := hide (g5.grown.trans hX6); have hcall := hide (h7.out w6 b v6 M hx6.out hb6 hM hMe); clear hb6 hM hMe hX6) | (go_at_call 55; refine hcall.out.mono ?_; rintro ee w7 ⟨v7, rfl, ho7, hX7⟩; have hz6 := hx6.out.size))
  go_returns
  exact ⟨_, rfl, own_base ho7 hz6, hx6.out.trans hX7⟩
end Go.Proofs.YtljkneajdndgjabGreat
set_option linter.unusedVariables false
set_option linter.unusedSimpArgs false
namespace Go.Proofs.YtljkneajdndgjabGreat
open Go.RowKit
attribute [local go_sem] GW.cell GW.frozen In.eq_true In.le_true In.ne In.ne' In.ne_add In.ne_add' In.lt_add Upto.le_true Upto.le_add Upto.lt_add
set_option maxHeartbeats 8000000 in
set_option maxRecDepth 100000 in
theorem refEdgeMay_c (L : List Ve) (v : Value) (w : World) (hC0 : Ew w [] v L) : Calls Tryz.prog 39 #[v] w fun e w' => e = .returned (.bool (mayE (eds L))) ∧ Ext w w' := by
  obtain ⟨A, cap, rfl, hlc, hlm, hat⟩ := ew_form hC0
  unfold maxLen at hlm
  have hC := hide hC0
  replace hat := hide hat
  obtain ⟨R, hR⟩ : ∃ R, R = mayE (eds L) := ⟨_, rfl⟩
  rw [← hR]
  have hRbig : Hid (4096 < L.length → R = false) := fun h => by
    rw [hR]; refine mayE_false fun hh => ?_
    have := mayE_len hh; simp only [eds, List.length_map] at this; omega
  have hRok : Hid (∀ e ∈ eds L, okE e = false → R = false) := fun e he h => by
    rw [hR]; refine mayE_false fun hh => ?_
    rw [mayE_okE hh he] at h; cases h
  have hRl : Hid (∀ (i : Nat) (a b : Ed), (eds L)[i]? = some a → (eds L)[i + 1]? = some b → ¬ elt a b → R = false) := fun i a b ha hb h => by
    rw [hR]; exact mayE_false fun hh => h (mayE_elt hh ha hb)
  have hRj : Hid (∀ r, 1024 < (jmps (eds L) r).length → R = false) := fun r h => by
    rw [hR]; refine mayE_false fun hh => ?_
    have := mayE_jl hh r; omega
  clear hC0
  by_cases hl : 4096 < L.length
  · have hf := hide (hRbig.out hl)
    have hlI : (4096 : Int) < L.length := by omega
    clear hR hRbig hRok hRl hRj
    go_enter Tryz.func39, Tryz.ntmps39
    go_wp2_with fail
    go_returns
    exact ⟨by rw [hf.out]; rfl, Ext.refl w⟩
  have hlI : ¬ (4096 : Int) < L.length := by omega
  have hRt : Hid (Chk (eds L) L.length → (∀ r ∈ rowsL (eds L), (jmps (eds L) r).length ≤ 1024) → R = true) := fun hc h => by
    rw [hR]; exact mayE_chk (by simp only [eds, List.length_map]; omega) (by simpa [eds] using hc) h
  have hvr := hide (fun (hc : Chk (eds L) L.length) => Chk.rows (l := eds L) (by simpa [eds] using hc))
  clear hR hRbig
  go_enter Tryz.func39, Tryz.ntmps39
  go_wp2_with fail
  go_loopg [3] L.length (fun gh i wr => ∃ (k : Nat), i = .int .i64 k ∧ k + gh = L.length ∧ Hid (Chk (eds L) k) ∧ Ext w wr)
  case atStart => exact ⟨0, rfl, by omega, Chk.zero _, Ext.refl w⟩
  case round =>
    obtain ⟨k, rfl, hk, hchk, hX⟩ := hrel
    obtain ⟨wo, hwo⟩ : ∃ wo, wo = wr := ⟨_, rfl⟩
    subst hwo
    by_cases hlt : k < L.length
    · obtain ⟨⟨xv, xr, xa, xn⟩, hx⟩ : ∃ x, L[k]? = some x := ⟨_, List.getElem?_eq_getElem hlt⟩
      obtain ⟨b, o, rfl, -, hb, c0, c1, c2⟩ := hat.out k _ hx
      have k0 := cell_later hX c0
      have k1 := cell_later hX c1
      have k2 := cell_later hX c2
      have hbr : b < _ := block_lt_of_cell k0
      have hxe : (eds L)[k]? = some (xr, (xa, xn)) := by simp [eds, hx]
      have hrx := hide (Sl.ext (hC.out.2 _ (List.mem_of_getElem? hx)) hX)
      simp only at k0 k1 k2 hrx
      have h1 := hide (fun w' hXw => refRowMay_c xr xv w' (Sl.ext (w := w') hrx.out hXw))
      obtain ⟨XA, xcap, rfl⟩ := rw_val hrx.out
      have hbd : okE (xr, (xa, xn)) = (mayR xr && mayJ [(xa, xn)]) := rfl
      have hRx := hide (hRok.out _ (List.mem_of_getElem? hxe))
      have hh := hide hlt
      haveI : In b _ := ⟨hbr⟩
      clear hx
      cases hm : mayR xr
      · rw [hm] at h1 hbd
        have hf := hide (hRx.out (by rw [hbd]; rfl))
        clear hbd hxe hRx
        go_wp2_with fail
        refine wp_region_gw_tail 18 (by kernel_rfl) (by kernel_rfl) ?_
        simp only [List.take_succ_cons, List.take_zero, List.drop_succ_cons, List.drop_zero]
        repeat (go_big_quiet_step ((go_at_call 47; with_reducible exact quiet_gw (h1.out _ (GW.grown _)))))
        refine wpQuiet_nil ?_
        intro g
        go_wp2_with fail
        go_returns
        exact ⟨by rw [hf.out]; rfl, hX.trans g.grown⟩
      have hmx := hide hm
      rw [hm] at h1 hbd
      rw [Bool.true_and] at hbd
      have hst := hide (fun w' => refStepMay_c [(xa, xn)] _ _ (oneJ_new (xa, xn) w'))
      cases hj1 : mayJ [(xa, xn)]
      · rw [hj1] at hst
        have hf := hide (hRx.out (by rw [hbd, hj1]))
        clear hbd hxe hRx
        go_wp2_with fail
        refine wp_region_gw_tail 18 (by kernel_rfl) (by kernel_rfl) ?_
        simp only [List.take_succ_cons, List.take_zero, List.drop_succ_cons, List.drop_zero]
        repeat (go_big_quiet_step ((go_at_call 47; with_reducible exact quiet_gw (h1.out _ (GW.grown _)))))
        refine wpQuiet_nil ?_
        intro g
        go_wp2_with (go_at_call 57; (with_reducible refine seq_gw (hst.out g.val) ?_); intro g2)
        go_returns
        exact ⟨by rw [hf.out]; rfl, hX.trans ((g.grown.alloc _).trans g2.grown)⟩
      rw [hj1] at hst hbd
      by_cases hk0 : k = 0
      · have hn2 : Hid (Chk (eds L) (k + 1)) := by subst hk0; exact Chk.first hxe hbd
        have hk0b : ((k : Int) == 0) = true := by rw [beq_iff_eq]; omega
        replace hk0 := hide hk0
        clear hbd hxe hRx
        go_wp2_with fail
        refine wp_region_gw_tail 18 (by kernel_rfl) (by kernel_rfl) ?_
        simp only [List.take_succ_cons, List.take_zero, List.drop_succ_cons, List.drop_zero]
        repeat (go_big_quiet_step ((go_at_call 47; with_reducible exact quiet_gw (h1.out _ (GW.grown _)))))
        refine wpQuiet_nil ?_
        intro g
        go_wp2_with (go_at_call 57; (with_reducible refine seq_gw (hst.out g.val) ?_); intro g2)
        go_roundg (L.length - (k + 1))
        case measure => omega
        case rel => exact ⟨k + 1, by go_num, by omega, hn2, hX.trans ((g.grown.alloc _).trans g2.grown)⟩
      · obtain ⟨m, hkm⟩ : ∃ m, k = m + 1 := ⟨k - 1, by omega⟩
        have hk0b : ((k : Int) == 0) = false := by rw [beq_eq_false_iff_ne]; omega
        have hkz : (k : Int) - 1 = m := by omega
        have hml : m < L.length := by omega
        have hmk : m < k := by omega
        obtain ⟨⟨yv, yr, ya, yn⟩, hy⟩ : ∃ y, L[m]? = some y := ⟨_, List.getElem?_eq_getElem hml⟩
        obtain ⟨b9, o9, e9, -, hb9, d0, d1, d2⟩ := hat.out m _ hy
        cases e9
        have j0 := cell_later hX d0
        have j1 := cell_later hX d1
        have hye : (eds L)[m]? = some (yr, (ya, yn)) := by simp [eds, hy]
        have hry := hide (Sl.ext (hC.out.2 _ (List.mem_of_getElem? hy)) hX)
        simp only at j0 j1 hry
        have hmy := hide ((okE_iff _).1 (hchk.out.1 m _ hmk hye)).1
        simp only at hmy
        have hcmp := hide (fun w' hXw => refRowCompare_c (Sl.ext (w := w') hry.out hXw) (Sl.ext hrx.out hXw))
        rw [cmpR_of hmy.out hmx.out] at hcmp
        obtain ⟨YA, ycap, rfl⟩ := rw_val hry.out
        have hnext : Hid (elt (yr, (ya, yn)) (xr, (xa, xn)) → Chk (eds L) (k + 1)) := fun h => by
          subst hkm; exact Chk.next hchk.out hye hxe hbd h
        have hRlt : Hid (True → ¬ elt (yr, (ya, yn)) (xr, (xa, xn)) → R = false) := fun _ h => hRl.out m _ _ hye (by rw [← hkm]; exact hxe) h
        have hcm0 := hide (row_eq hmy.out hmx.out)
        obtain ⟨cm, hcm⟩ : ∃ cm, cm = cmpT yr xr := ⟨_, rfl⟩
        rw [← hcm] at hcmp hcm0
        replace hcm := hide hcm
        replace hkm := hide hkm
        replace hk0 := hide hk0
        clear hbd hxe hRx hy hye d0 d1 d2 c0 c1 c2
        go_wp2_with fail
        refine wp_region_gw_tail 18 (by kernel_rfl) (by kernel_rfl) ?_
        simp only [List.take_succ_cons, List.take_zero, List.drop_succ_cons, List.drop_zero]
        repeat (go_big_quiet_step ((go_at_call 47; with_reducible exact quiet_gw (h1.out _ (GW.grown _)))))
        refine wpQuiet_nil ?_
        intro g
        go_wp2_with (go_at_call 57; (with_reducible refine seq_gw (hst.out g.val) ?_); intro g2)
        have hX6 := hide (hX.trans ((g.grown.alloc _).trans g2.grown))
        have hX7 := hide ((g.grown.alloc _).trans g2.grown)
        refine wp_region_gw (by kernel_rfl) (by kernel_rfl) ?_
        repeat (go_big_quiet_step ((go_at_call 83; with_reducible exact quiet_gw (hcmp.out _ (hX7.out.trans (GW.grown _))))))
        refine wpQuiet_nil ?_
        intro g3
        go_wp2_with fail
        by_cases hc1 : 0 < cm
        · have d1 : decide (0 < cm) = true := decide_eq_true hc1
          have hf := hide (hRlt.out trivial (by rintro (h | ⟨h, -⟩); have : cmpT yr xr < 0 := h.2; have := hcm.out; omega; have : cm = 0 := (hcm0.out).2 h; omega))
          clear hcm hcm0
          go_wp2_with fail
          refine wp_region_gw (by kernel_rfl) (by kernel_rfl) ?_
          repeat (go_big_quiet_step (fail))
          refine wpQuiet_nil ?_
          intro g4
          go_wp2_with fail
          go_returns
          exact ⟨by rw [hf.out]; rfl, (hX6.out.trans g3.grown).trans g4.grown⟩
        · have d1 : decide (0 < cm) = false := decide_eq_false hc1
          by_cases hc2 : cm = 0
          · have b2 : (cm == 0) = true := by rw [beq_iff_eq]; exact hc2
            have hrr := hcm0.out.1 hc2
            by_cases hc3 : xa ≤ ya
            · have d3 : decide (xa ≤ ya) = true := decide_eq_true hc3
              have hf := hide (hRlt.out trivial (by rintro (h | ⟨-, h⟩); have : cmpT yr xr < 0 := h.2; have := hcm.out; omega; simp only at h; omega))
              replace hrr := hide hrr
              replace hc2 := hide hc2
              clear hcm hcm0
              go_wp2_with fail
              refine wp_region_gw (by kernel_rfl) (by kernel_rfl) ?_
              repeat (go_big_quiet_step (fail))
              refine wpQuiet_nil ?_
              intro g4
              go_wp2_with fail
              go_returns
              exact ⟨by rw [hf.out]; rfl, (hX6.out.trans g3.grown).trans g4.grown⟩
            · have d3 : decide (xa ≤ ya) = false := decide_eq_false hc3
              have hn2 : Hid (Chk (eds L) (k + 1)) := hnext.out (.inr ⟨hrr, by show ya < xa; omega⟩)
              replace hrr := hide hrr
              replace hc2 := hide hc2
              clear hcm hcm0 hnext
              go_wp2_with fail
              refine wp_region_gw (by kernel_rfl) (by kernel_rfl) ?_
              repeat (go_big_quiet_step (fail))
              refine wpQuiet_nil ?_
              intro g4
              go_wp2_with fail
              go_roundg (L.length - (k + 1))
              case measure => omega
              case rel => exact ⟨k + 1, by go_num, by omega, hn2, (hX6.out.trans g3.grown).trans g4.grown⟩
          · have b2 : (cm == 0) = false := by rw [beq_eq_false_iff_ne]; exact hc2
            have hn2 : Hid (Chk (eds L) (k + 1)) := hnext.out (.inl ⟨⟨hmy.out, hmx.out⟩, by show cmpT yr xr < 0; have := hcm.out; omega⟩)
            replace hc2 := hide hc2
            clear hcm hcm0 hnext
            go_wp2_with fail
            refine wp_region_gw (by kernel_rfl) (by kernel_rfl) ?_
            repeat (go_big_quiet_step (fail))
            refine wpQuiet_nil ?_
            intro g4
            go_wp2_with fail
            go_roundg (L.length - (k + 1))
            case measure => omega
            case rel => exact ⟨k + 1, by go_num, by omega, hn2, (hX6.out.trans g3.grown).trans g4.grown⟩
    · have hk' : k = L.length := by omega
      have hge : (L.length : Int) ≤ k := by omega
      have hvE := hide (hvr.out (hk' ▸ hchk.out))
      replace hchk := hide (show Chk (eds L) L.length from hk' ▸ hchk.out)
      replace hk' := hide hk'
      have hX0 := hide hX
      have hrows := hide (fun w' (hX : Ext w w') => refRows_c L (.slice A L.length cap) w' (hC.out.ext hX) hvE.out (by omega))
      clear hRok hRl
      go_wp2_with (go_at_call 41; refine (hrows.out _ hX0.out).mono ?_; rintro ee w2 ⟨rv, M, rfl, hM0, hrs0, hMq0, hx20⟩)
      clear hX
      have hx2 := hide (hX0.out.trans hx20)
      have hM := hide hM0
      have hMr : Hid (∀ p ∈ M, Rw w2 [] p.1 p.2) := fun p hp => by
        obtain ⟨q, hq, e1, e2⟩ := hMq0 p hp
        rw [← e1, ← e2]; exact Sl.ext (hC.out.2 q hq) hx2.out
      have hrsl := hide (Sl.own (S := []) hrs0 (by simp))
      obtain ⟨RA, rcap, e9, hrc, hrm, hrt0⟩ := rs_form hrsl.out
      subst e9
      have hrt := hide hrt0
      unfold maxLen at hrm
      clear hM0 hrs0 hMq0 hx20 hrt0
      go_loopg [6] M.length (fun gh i wq => ∃ (k : Nat), i = .int .i64 k ∧ k + gh = M.length ∧ Hid (∀ r ∈ (rvs M).take k, (jmps (eds L) r).length ≤ 1024) ∧ Ext w2 wq)
      case atStart => exact ⟨0, rfl, by omega, (by intro r hr; simp at hr), Ext.refl w2⟩
      case round =>
        obtain ⟨k, rfl, hk, hall, hX⟩ := hrel
        obtain ⟨wq, hwq⟩ : ∃ wq, wq = wr := ⟨_, rfl⟩
        subst hwq
        by_cases hlt : k < M.length
        · obtain ⟨⟨pv, pr⟩, hp⟩ : ∃ p, M[k]? = some p := ⟨_, List.getElem?_eq_getElem hlt⟩
          have hpr : (rvs M)[k]? = some pr := by simp [rvs, hp]
          obtain ⟨b', o', rfl, -, hb', d0⟩ := hrt.out k _ hp
          have j0 := cell_later hX d0
          have hbr : b' < _ := block_lt_of_cell j0
          have hpw := hide (Sl.ext (hMr.out _ (List.mem_of_getElem? hp)) hX)
          simp only at j0 hpw
          have hj := hide (refJumps_c L pr (.slice A L.length cap) pv _ (hC.out.ext (hx2.out.trans hX)) hpw.out (by omega))

          obtain ⟨J, hJ⟩ : ∃ J, J = jmps (eds L) pr := ⟨_, rfl⟩
          rw [← hJ] at hj
          have hJh := hide hJ
          obtain ⟨XA, xcap, rfl⟩ := rw_val hpw.out
          haveI : In b' _ := ⟨hbr⟩
          clear d0 hp hJ
          by_cases hbig : 1024 < J.length
          · have hf := hide (hRj.out pr (by rw [← hJh.out]; exact hbig))
            have hbI : (1024 : Int) < J.length := by omega
            clear hall
            go_wp2_with (go_at_call 19; refine hj.out.mono ?_; rintro ee w3 ⟨v3, rfl, ho3, hx3⟩; have hf3 := hide (Sl.own (S := []) ho3 (by simp)); obtain ⟨C3, c3, q3⟩ := own_form ho3; subst q3)
            go_returns
            exact ⟨by rw [hf.out]; rfl, (hx2.out.trans hX).trans hx3⟩
          · have hbI : ¬ (1024 : Int) < J.length := by omega
            have hn2 : Hid (∀ r ∈ (rvs M).take (k + 1), (jmps (eds L) r).length ≤ 1024) := fun r hr => by
              rw [List.take_add_one, hpr] at hr
              rcases List.mem_append.1 hr with h | h
              · exact hall.out r h
              · obtain rfl : r = pr := by simpa using h
                rw [← hJh.out]; omega
            clear hall hpr
            go_wp2_with (go_at_call 19; refine hj.out.mono ?_; rintro ee w3 ⟨v3, rfl, ho3, hx3⟩; have hf3 := hide (Sl.own (S := []) ho3 (by simp)); obtain ⟨C3, c3, q3⟩ := own_form ho3; subst q3)
            go_roundg (M.length - (k + 1))
            case measure => omega
            case rel => exact ⟨k + 1, by go_num, by omega, hn2, hX.trans hx3⟩
        · have hge : (M.length : Int) ≤ k := by omega
          have hal := hall.out
          rw [List.take_of_length_le (by simp [rvs]; omega)] at hal
          have hf := hide (hRt.out hchk.out (by rw [← hM.out]; exact hal))
          clear hal hall
          go_wp2_with fail
          go_returns
          exact ⟨by rw [hf.out]; rfl, hx2.out.trans hX⟩
set_option maxHeartbeats 8000000 in
set_option maxRecDepth 100000 in
theorem refEdgeTable_c (L : List Ve) (v : Value) (w : World) (hC0 : Ew w [] v L) : Calls Tryz.prog 58 #[v] w fun e w' => e = .returned (.bool (tabE (eds L))) ∧ Ext w w' := by
  have h1 := hide (refEdgeMay_c L v w hC0)
  obtain ⟨A, cap, rfl, hlc, hlm, hat⟩ := ew_form hC0
  unfold maxLen at hlm
  have hC := hide hC0
  obtain ⟨R, hR⟩ : ∃ R, R = tabE (eds L) := ⟨_, rfl⟩
  rw [← hR]
  clear hC0 hat
  cases ha : mayE (eds L)
  · rw [ha] at h1
    have hf := hide (show R = false by rw [hR]; unfold tabE; rw [ha]; rfl)
    clear hR
    go_enter Tryz.func58, Tryz.ntmps58
    go_wp2_with (go_at_call 39; (with_reducible refine seq_gw h1.out ?_); intro g)
    go_returns
    exact ⟨by rw [hf.out]; rfl, g.grown⟩
  rw [ha] at h1
  rw [tabE_rows ha] at hR
  have hL4 : L.length ≤ 4096 := by have := mayE_len ha; simpa [eds] using this
  have hvE := hide (mayE_rise ha).1
  have hRt0 : (∀ r ∈ rowsL (eds L), 0 ≤ leV (jmps (eds L) r)) → R = true := fun h => by rw [hR, List.all_eq_true]; intro r hr; rw [decide_eq_true_iff]; exact h r hr
  have hRn0 : ∀ r ∈ rowsL (eds L), leV (jmps (eds L) r) < 0 → R = false := fun r hr h => by
    rw [hR, ← Bool.not_eq_true, List.all_eq_true]
    intro hh
    have := hh r hr
    rw [decide_eq_true_iff] at this
    omega
  have hRt1 := hide hRt0
  have hRn1 := hide hRn0
  have hrows := hide (fun w' (hX : Ext w w') => refRows_c L (.slice A L.length cap) w' (hC.out.ext hX) hvE.out (by omega))
  clear hR ha hRt0 hRn0
  go_enter Tryz.func58, Tryz.ntmps58
  go_wp2_with (first | (go_at_call 39; (with_reducible refine seq_gw h1.out ?_); intro g) | (go_at_call 41; refine (hrows.out _ g.grown).mono ?_; rintro ee w2 ⟨rv, M, rfl, hM0, hrs0, hMq0, hx20⟩))
  have hRt := hide (fun (h : ∀ r ∈ rvs M, 0 ≤ leV (jmps (eds L) r)) => hRt1.out (by rw [← hM0]; exact h))
  have hRn := hide (fun r (h : r ∈ rvs M) => hRn1.out r (by rw [← hM0]; exact h))
  have hx2 := hide (g.grown.trans hx20)
  have hM := hide hM0
  have hMr : Hid (∀ p ∈ M, Rw w2 [] p.1 p.2) := fun p hp => by
    obtain ⟨q, hq, e1, e2⟩ := hMq0 p hp
    rw [← e1, ← e2]; exact Sl.ext (hC.out.2 q hq) hx2.out
  have hrsl := hide (Sl.own (S := []) hrs0 (by simp))
  obtain ⟨RA, rcap, e9, hrc, hrm, hrt0⟩ := rs_form hrsl.out
  subst e9
  have hrt := hide hrt0
  unfold maxLen at hrm
  clear hM0 hrs0 hMq0 hx20 hrt0
  go_loopg [4] M.length (fun gh i wq => ∃ (k : Nat), i = .int .i64 k ∧ k + gh = M.length ∧ Hid (∀ r ∈ (rvs M).take k, 0 ≤ leV (jmps (eds L) r)) ∧ Ext w2 wq)
  case atStart => exact ⟨0, rfl, by omega, (by intro r hr; simp at hr), Ext.refl w2⟩
  case round =>
    obtain ⟨k, rfl, hk, hall, hX⟩ := hrel
    obtain ⟨wq, hwq⟩ : ∃ wq, wq = wr := ⟨_, rfl⟩
    subst hwq
    by_cases hlt : k < M.length
    · obtain ⟨⟨pv, pr⟩, hp⟩ : ∃ p, M[k]? = some p := ⟨_, List.getElem?_eq_getElem hlt⟩
      have hpr : (rvs M)[k]? = some pr := by simp [rvs, hp]
      obtain ⟨b', o', rfl, -, hb', d0⟩ := hrt.out k _ hp
      have j0 := cell_later hX d0
      have hbr : b' < _ := block_lt_of_cell j0
      have hpw := hide (Sl.ext (hMr.out _ (List.mem_of_getElem? hp)) hX)
      simp only at j0 hpw
      have hj := hide (refJumps_c L pr (.slice A L.length cap) pv _ (hC.out.ext (hx2.out.trans hX)) hpw.out (by omega))

      obtain ⟨J, hJ⟩ : ∃ J, J = jmps (eds L) pr := ⟨_, rfl⟩
      rw [← hJ] at hj
      have hJh := hide hJ
      obtain ⟨XA, xcap, rfl⟩ := rw_val hpw.out
      haveI : In b' _ := ⟨hbr⟩
      clear d0 hp hJ
      obtain ⟨z, hz⟩ : ∃ z, z = leV J := ⟨_, rfl⟩
      have hle := hide (fun v w h => refStepLeast_c J v w h)
      rw [← hz] at hle
      by_cases hneg : z < 0
      · have hf := hide (hRn.out pr (List.mem_of_getElem? hpr) (by rw [← hJh.out, ← hz]; exact hneg))
        replace hz := hide hz
        clear hall
        go_wp2_with (first | (go_at_call 19; refine hj.out.mono ?_; rintro ee w3 ⟨v3, rfl, ho3, hx3⟩; have hf3 := hide (Sl.own (S := []) ho3 (by simp)); obtain ⟨C3, c3, q3⟩ := own_form ho3; subst q3) | (go_at_call 106; (with_reducible refine seq_gw (hle.out _ _ hf3.out) ?_); intro g4))
        go_returns
        exact ⟨by rw [hf.out]; rfl, (hx2.out.trans hX).trans (hx3.trans g4.grown)⟩
      · have hn2 : Hid (∀ r ∈ (rvs M).take (k + 1), 0 ≤ leV (jmps (eds L) r)) := fun r hr => by
          rw [List.take_add_one, hpr] at hr
          rcases List.mem_append.1 hr with h | h
          · exact hall.out r h
          · obtain rfl : r = pr := by simpa using h
            rw [← hJh.out, ← hz]; omega
        replace hz := hide hz
        clear hall hpr
        go_wp2_with (first | (go_at_call 19; refine hj.out.mono ?_; rintro ee w3 ⟨v3, rfl, ho3, hx3⟩; have hf3 := hide (Sl.own (S := []) ho3 (by simp)); obtain ⟨C3, c3, q3⟩ := own_form ho3; subst q3) | (go_at_call 106; (with_reducible refine seq_gw (hle.out _ _ hf3.out) ?_); intro g4))
        go_roundg (M.length - (k + 1))
        case measure => omega
        case rel => exact ⟨k + 1, by go_num, by omega, hn2, hX.trans (hx3.trans g4.grown)⟩
    · have hge : (M.length : Int) ≤ k := by omega
      have hal := hall.out
      rw [List.take_of_length_le (by simp [rvs]; omega)] at hal
      have hf := hide (hRt.out hal)
      clear hal hall
      go_wp2_with fail
      go_returns
      exact ⟨by rw [hf.out]; rfl, hx2.out.trans hX⟩
end Go.Proofs.YtljkneajdndgjabGreat
