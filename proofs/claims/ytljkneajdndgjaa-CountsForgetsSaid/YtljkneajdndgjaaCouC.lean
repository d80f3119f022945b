/-
  A helper of ours: no claim of its own. Layer 29 (counts): Open, by the code.
-/
import Derived.Test.YtljkneajdndgjaaCouA
set_option linter.unusedVariables false
set_option linter.unusedSimpArgs false
namespace Go.Proofs.Ytljkneajdndgjaa
open Go.RowKit
attribute [local go_sem] GW.cell GW.frozen In.eq_true In.le_true In.ne In.ne' In.ne_add In.ne_add' In.lt_add Upto.le_true Upto.le_add Upto.lt_add
theorem ext_drewN (w : World) (q : Nat) : Ext w (w.drewN q) := by
  induction q with
  | zero => exact Ext.refl w
  | succ q ih => exact ih.drew
def sbN (D : List Int) (x : Int) : Nat := D.countP (· < x)
theorem ibin_c (B : Nat) (D : List Int) (x : Int) (v : Value) (w : World) (h : OwnZ w B v D) (hn : D.length ≤ 1000000000) (hs : D.Pairwise (· ≤ ·)) : Calls Try.prog 29 #[v, .int .i64 x] w fun e w' => e = .returned (.tuple #[.int .i64 (sbN D x : Nat), .bool (D.contains x)]) ∧ Ext w w' := by
  rcases h.2 with ⟨rfl, h0⟩ | ⟨g, cap, cur, rfl, hb, hg, hnc, hcm, hcs, ht⟩
  · obtain rfl : D = [] := List.eq_nil_of_length_eq_zero (by simpa using h0)
    refine (Try.slices_BinarySearch_int_empty none 0 x w).mono ?_
    rintro e w' ⟨rfl, rfl⟩
    exact ⟨rfl, Ext.refl _⟩
  · refine (Try.slices_BinarySearch_int g 0 D.length cap D x w (Nat.le_refl _) (by omega) (fun j hj => ?_) (by rw [List.take_length]; exact hs)).mono ?_
    · have h1 := World.ownsRow.cellAt h j (by omega)
      rw [Nat.zero_add, h1]
      simp [zc, hj]
    · rintro e w' ⟨rfl, q, rfl⟩
      rw [List.take_length]
      exact ⟨rfl, ext_drewN w q⟩
def ssE (l : List Ed) (n t : Int) : Int := if 1 ≤ n ∧ n ≤ 64 then (if csE l = 0 then (if 0 ≤ t ∧ t ≤ 1125899906842624 then 0 else 13) else csE l) else 2
def ssL (l : List Ed) (n t : Int) : List Int := if ssE l n t = 0 then csT l else []
set_option maxHeartbeats 4000000 in
set_option maxRecDepth 100000 in
theorem startsFor_c (L : List Ve) (n t : Int) (v : Value) (w : World) (hC : Ew w [] v L) : Calls Try.prog 28 #[v, .int .i64 n, .int .i64 t] w fun e w' => ∃ v', e = .returned (.tuple #[v', .int .i64 (ssE (eds L) n t)]) ∧ OwnZ w' w.heap.size v' (ssL (eds L) n t) ∧ Ext w w' := by
  have hs := hide (cstarts_c L v w hC)
  obtain ⟨A, cap, rfl, hlc, hlm, -⟩ := ew_form hC
  clear hC
  by_cases c1 : n < 1
  · have e1 : ssE (eds L) n t = 2 := by unfold ssE; rw [if_neg (by omega)]
    have e2 : ssL (eds L) n t = [] := by unfold ssL; rw [e1]; rfl
    rw [e1, e2]
    clear e1 e2
    go_enter Try.func28, Try.ntmps28
    go_wp2_with fail
    go_returns
    exact ⟨_, rfl, World.ownsRow_nil _ _ _ _, Ext.refl _⟩
  by_cases c2 : 64 < n
  · have e1 : ssE (eds L) n t = 2 := by unfold ssE; rw [if_neg (by omega)]
    have e2 : ssL (eds L) n t = [] := by unfold ssL; rw [e1]; rfl
    rw [e1, e2]
    clear e1 e2
    go_enter Try.func28, Try.ntmps28
    go_wp2_with fail
    go_returns
    exact ⟨_, rfl, World.ownsRow_nil _ _ _ _, Ext.refl _⟩
  obtain ⟨E, hE⟩ : ∃ E, E = csE (eds L) := ⟨_, rfl⟩
  obtain ⟨D, hD⟩ : ∃ D, D = csL (eds L) := ⟨_, rfl⟩
  rw [← hE, ← hD] at hs
  by_cases hE0 : E = 0
  case neg =>
    have e1 : ssE (eds L) n t = E := by unfold ssE; rw [if_pos (by omega), if_neg (by rw [← hE]; exact hE0), hE]
    have e2 : ssL (eds L) n t = [] := by unfold ssL; rw [e1, if_neg hE0]
    rw [e1, e2]
    have hb : (E != 0) = true := by simpa using hE0
    replace hE := hide hE
    replace hD := hide hD
    clear e1 e2
    go_enter Try.func28, Try.ntmps28
    go_wp2_with (go_at_call 9; refine hs.out.mono ?_; rintro ee w1 ⟨v1, rfl, ho1, hX1⟩; have hX2 := hide hX1; obtain ⟨A1, c1, q1⟩ := own_form ho1; subst q1; clear ho1 hX1)
    go_returns
    exact ⟨_, rfl, World.ownsRow_nil _ _ _ _, hX2.out⟩
  subst hE0
  have hDe : D = csT (eds L) := by rw [hD]; unfold csL; rw [← hE, if_pos rfl]
  by_cases c3 : t < 0
  · have e1 : ssE (eds L) n t = 13 := by unfold ssE; rw [if_pos (by omega), if_pos hE.symm, if_neg (by omega)]
    have e2 : ssL (eds L) n t = [] := by unfold ssL; rw [e1]; rfl
    rw [e1, e2]
    replace hE := hide hE
    replace hD := hide hD
    replace hDe := hide hDe
    clear e1 e2
    go_enter Try.func28, Try.ntmps28
    go_wp2_with (go_at_call 9; refine hs.out.mono ?_; rintro ee w1 ⟨v1, rfl, ho1, hX1⟩; have hX2 := hide hX1; obtain ⟨A1, c1, q1⟩ := own_form ho1; subst q1; clear ho1 hX1)
    go_returns
    exact ⟨_, rfl, World.ownsRow_nil _ _ _ _, hX2.out⟩
  by_cases c4 : 1125899906842624 < t
  · have e1 : ssE (eds L) n t = 13 := by unfold ssE; rw [if_pos (by omega), if_pos hE.symm, if_neg (by omega)]
    have e2 : ssL (eds L) n t = [] := by unfold ssL; rw [e1]; rfl
    rw [e1, e2]
    replace hE := hide hE
    replace hD := hide hD
    replace hDe := hide hDe
    clear e1 e2
    go_enter Try.func28, Try.ntmps28
    go_wp2_with (go_at_call 9; refine hs.out.mono ?_; rintro ee w1 ⟨v1, rfl, ho1, hX1⟩; have hX2 := hide hX1; obtain ⟨A1, c1, q1⟩ := own_form ho1; subst q1; clear ho1 hX1)
    go_returns
    exact ⟨_, rfl, World.ownsRow_nil _ _ _ _, hX2.out⟩
  have e1 : ssE (eds L) n t = 0 := by unfold ssE; rw [if_pos (by omega), if_pos hE.symm, if_pos (by omega)]
  have e2 : ssL (eds L) n t = D := by unfold ssL; rw [e1, if_pos rfl, hDe]
  rw [e1, e2]
  replace hE := hide hE
  replace hD := hide hD
  replace hDe := hide hDe
  clear e1 e2
  go_enter Try.func28, Try.ntmps28
  go_wp2_with (go_at_call 9; refine hs.out.mono ?_; rintro ee w1 ⟨v1, rfl, ho1, hX1⟩; have hX2 := hide hX1; have ho2 := hide ho1; obtain ⟨A1, c1, q1⟩ := own_form ho1; subst q1; clear ho1 hX1)
  go_returns
  exact ⟨_, rfl, ho2.out, hX2.out⟩
end Go.Proofs.Ytljkneajdndgjaa
set_option linter.unusedVariables false
set_option linter.unusedSimpArgs false
namespace Go.Proofs.Ytljkneajdndgjaa
open Go.RowKit
attribute [local go_sem] GW.cell GW.frozen In.eq_true In.le_true In.ne In.ne' In.ne_add In.ne_add' In.lt_add Upto.le_true Upto.le_add Upto.lt_add
theorem csR_len : ∀ (G : List Gp), (∀ g ∈ G, g.2.length ≤ 1024) → (csR G).length ≤ G.length * 1024
  | [], _ => by simp [csR]
  | g :: G, h => by
    have h1 := csR_len G (fun x hx => h x (List.mem_cons_of_mem _ hx))
    have h2 := h g (by simp)
    have h3 := incL_len g.2
    rw [show csR (g :: G) = (incL g.2).map Prod.fst ++ csR G from rfl, List.length_append, List.length_map, List.length_cons]
    omega
theorem csT_asc (l : List Ed) : (csT l).Pairwise (· < ·) := insAll_asc _
theorem csT_len {l : List Ed} (hm : mayE l = true) : (csT l).length ≤ 4194304 := by
  have h1 := nodup_len (csT l) (csR (grp l)) (asc_nodup (csT_asc l)) (fun x hx => (insAll_mem _ x).1 hx)
  have h2 := csR_len (grp l) (fun g hg => mayJ_len ((mayE_iff.1 hm).2.2 g hg))
  have h3 := grp_len2 l
  have h4 := mayE_len hm
  omega
def coI (D : List Int) (n t : Int) : Nat := sbN D t - (n - 1).toNat
def coV (l : List Ed) (n t : Int) : Int := if ssE l n t = 0 then (if t = 1125899906842624 then 1125899906842624 else if coI (csT l) n t < sbN (csT l) t then (csT l).getD (coI (csT l) n t) 0 else t) else 0
theorem ssE_ok {l : List Ed} {n t : Int} (h : ssE l n t = 0) : (1 ≤ n ∧ n ≤ 64) ∧ (mayE l = true ∧ tabE l = true) ∧ (0 ≤ t ∧ t ≤ 1125899906842624) := by
  unfold ssE at h
  split at h
  case isFalse => exact absurd h (by decide)
  rename_i h1
  split at h
  case isFalse h2 => exact absurd h h2
  rename_i h2
  split at h
  case isFalse => exact absurd h (by decide)
  rename_i h3
  refine ⟨h1, ?_, h3⟩
  unfold csE at h2
  split at h2
  case isFalse => exact absurd h2 (by decide)
  rename_i h4
  split at h2
  case isFalse => exact absurd h2 (by decide)
  exact ⟨h4, by assumption⟩
set_option maxHeartbeats 4000000 in
set_option maxRecDepth 100000 in
theorem copen_c (L : List Ve) (n t : Int) (v : Value) (w : World) (hC : Ew w [] v L) : Calls Try.prog 11 #[v, .int .i64 n, .int .i64 t] w fun e w' => e = .returned (.tuple #[.int .i64 (coV (eds L) n t), .int .i64 (ssE (eds L) n t)]) ∧ Ext w w' := by
  have hs := hide (startsFor_c L n t v w hC)
  obtain ⟨A, cap, rfl, hlc, hlm, -⟩ := ew_form hC
  clear hC
  obtain ⟨E, hE⟩ : ∃ E, E = ssE (eds L) n t := ⟨_, rfl⟩
  obtain ⟨D, hD⟩ : ∃ D, D = ssL (eds L) n t := ⟨_, rfl⟩
  rw [← hE, ← hD] at hs
  rw [← hE]
  by_cases hE0 : E = 0
  case neg =>
    have e1 : coV (eds L) n t = 0 := by unfold coV; rw [← hE, if_neg hE0]
    rw [e1]
    have hb : (E != 0) = true := by simpa using hE0
    replace hE := hide hE
    replace hD := hide hD
    clear e1
    go_enter Try.func11, Try.ntmps11
    go_wp2_with (go_at_call 28; refine hs.out.mono ?_; rintro ee w1 ⟨v1, rfl, ho1, hX1⟩; have hX2 := hide hX1; obtain ⟨A1, c1, q1⟩ := own_form ho1; subst q1; clear ho1 hX1)
    go_returns
    exact ⟨by first | rfl | simp, hX2.out⟩
  subst hE0
  obtain ⟨⟨n1, n2⟩, ⟨hm, -⟩, t1, t2⟩ := ssE_ok hE.symm
  have hDe : D = csT (eds L) := by rw [hD]; unfold ssL; rw [← hE, if_pos rfl]
  have hDl : D.length ≤ 4194304 := by rw [hDe]; exact csT_len hm
  have hDa : Hid (D.Pairwise (· < ·)) := by rw [hDe]; exact csT_asc _
  by_cases c1 : t = 1125899906842624
  · have e1 : coV (eds L) n t = 1125899906842624 := by unfold coV; rw [← hE, if_pos rfl, if_pos c1]
    rw [e1]
    subst c1
    replace hE := hide hE
    replace hD := hide hD
    replace hDe := hide hDe
    replace hm := hide hm
    clear e1
    go_enter Try.func11, Try.ntmps11
    go_wp2_with (go_at_call 28; refine hs.out.mono ?_; rintro ee w1 ⟨v1, rfl, ho1, hX1⟩; have hX2 := hide hX1; obtain ⟨A1, c1, q1⟩ := own_form ho1; subst q1; clear ho1 hX1)
    go_returns
    exact ⟨by first | rfl | simp, hX2.out⟩
  have hb : (t == 1125899906842624) = false := by simpa using c1
  have hv : coV (eds L) n t = if coI D n t < sbN D t then D.getD (coI D n t) 0 else t := by unfold coV; rw [← hE, if_pos rfl, if_neg c1, hDe]
  have hcl : sbN D t ≤ D.length := List.countP_le_length
  obtain ⟨c, hc⟩ : ∃ c, c = sbN D t := ⟨_, rfl⟩
  obtain ⟨i, hi⟩ : ∃ i, i = coI D n t := ⟨_, rfl⟩
  have hi2 : i = c - (n - 1).toNat := by rw [hi, hc]; rfl
  rw [← hi, ← hc] at hv
  rw [← hc] at hcl
  have hbs := hide (fun v w' (h : OwnZ w' w.heap.size v D) => ibin_c w.heap.size D t v w' h (by omega) (hDa.out.imp fun {a b} h => by omega))
  rw [← hc] at hbs
  have hmax : max ((c : Int) - (n - 1)) 0 = (i : Int) := by omega
  rw [hv]
  replace hE := hide hE
  replace hD := hide hD
  replace hDe := hide hDe
  replace hm := hide hm
  replace hc := hide hc
  replace hi := hide hi
  replace hi2 := hide hi2
  clear hv
  by_cases hlt : i < c
  · have hgd : D[i]? = some (D.getD i 0) := by rw [List.getD_eq_getElem?_getD, List.getElem?_eq_getElem (by omega)]; rfl
    obtain ⟨x, hx⟩ : ∃ x, x = D.getD i 0 := ⟨_, rfl⟩
    rw [if_pos hlt, ← hx]
    rw [← hx] at hgd
    replace hx := hide hx
    go_enter Try.func11, Try.ntmps11
    go_wp2_with (first | (go_at_call 28; refine hs.out.mono ?_; rintro ee w1 ⟨v1, rfl, ho1, hX1⟩; have hX2 := hide hX1; have ho2 := hide ho1; have hb2 := hide (hbs.out v1 w1 ho1); obtain ⟨A1, cp1, q1⟩ := own_form ho1; subst q1; clear ho1 hX1) | (go_at_call 29; refine hb2.out.mono ?_; rintro ee w2 ⟨rfl, hX3⟩; obtain ⟨A', cp', e', -, -, hat⟩ := zw_form (own_zw (own_ext ho2.out hX3)); simp only [Value.slice.injEq] at e'; obtain ⟨rfl, -, rfl⟩ := e'; obtain ⟨g, o, rfl, -, hgl, k0⟩ := hat i x hgd; (haveI : In g w2 := ⟨hgl⟩); replace hX3 := hide hX3; clear hat))
    go_returns
    exact ⟨by first | rfl | simp, hX2.out.trans hX3.out⟩
  · rw [if_neg hlt]
    go_enter Try.func11, Try.ntmps11
    go_wp2_with (first | (go_at_call 28; refine hs.out.mono ?_; rintro ee w1 ⟨v1, rfl, ho1, hX1⟩; have hX2 := hide hX1; have ho2 := hide ho1; have hb2 := hide (hbs.out v1 w1 ho1); obtain ⟨A1, cp1, q1⟩ := own_form ho1; subst q1; clear ho1 hX1) | (go_at_call 29; refine hb2.out.mono ?_; rintro ee w2 ⟨rfl, hX3⟩; replace hX3 := hide hX3))
    go_returns
    exact ⟨by first | rfl | simp, hX2.out.trans hX3.out⟩
end Go.Proofs.Ytljkneajdndgjaa
