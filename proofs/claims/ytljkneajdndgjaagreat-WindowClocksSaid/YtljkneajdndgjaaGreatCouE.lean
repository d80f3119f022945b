/-
  A helper of ours: no claim of its own. Layer 29 (counts): the lifetime of so many starts, by the code.
-/
import Derived.Test.YtljkneajdndgjaaGreatCouA
import Derived.Test.YtljkneajdndgjaaGreatStepR
set_option linter.unusedVariables false
set_option linter.unusedSimpArgs false
namespace Go.Proofs.YtljkneajdndgjaaGreat
open Go.RowKit
attribute [local go_sem] GW.cell GW.frozen In.eq_true In.le_true In.ne In.ne' In.ne_add In.ne_add' In.lt_add Upto.le_true Upto.le_add Upto.lt_add
theorem ext_drewN (w : World) (q : Nat) : Ext w (w.drewN q) := by
  induction q with
  | zero => exact Ext.refl w
  | succ q ih => exact ih.drew
def sbN (D : List Int) (x : Int) : Nat := D.countP (· < x)
theorem ibin_c (B : Nat) (D : List Int) (x : Int) (v : Value) (w : World) (h : OwnZ w B v D) (hn : D.length ≤ 1000000000) (hs : D.Pairwise (· ≤ ·)) : Calls Tryz.prog 89 #[v, .int .i64 x] w fun e w' => e = .returned (.tuple #[.int .i64 (sbN D x : Nat), .bool (D.contains x)]) ∧ Ext w w' := by
  rcases h.2 with ⟨rfl, h0⟩ | ⟨g, cap, cur, rfl, hb, hg, hnc, hcm, hcs, ht⟩
  · obtain rfl : D = [] := List.eq_nil_of_length_eq_zero (by simpa using h0)
    refine (Tryz.slices_BinarySearch_int_empty none 0 x w).mono ?_
    rintro e w' ⟨rfl, rfl⟩
    exact ⟨rfl, Ext.refl _⟩
  · refine (Tryz.slices_BinarySearch_int g 0 D.length cap D x w (Nat.le_refl _) (by omega) (fun j hj => ?_) (by rw [List.take_length]; exact hs)).mono ?_
    · have h1 := World.ownsRow.cellAt h j (by omega)
      rw [Nat.zero_add, h1]
      simp [zc, hj]
    · rintro e w' ⟨rfl, q, rfl⟩
      rw [List.take_length]
      exact ⟨rfl, ext_drewN w q⟩
def ssE (l : List Ed) (n t : Int) : Int := if 1 ≤ n ∧ n ≤ 64 then (if csE l = 0 then (if 0 ≤ t ∧ t ≤ 1125899906842624 then 0 else 13) else csE l) else 2
def ssL (l : List Ed) (n t : Int) : List Int := if ssE l n t = 0 then csT l else []
set_option maxHeartbeats 4000000 in
set_option maxRecDepth 100000 in
theorem startsFor_c (L : List Ve) (n t : Int) (v : Value) (w : World) (hC : Ew w [] v L) : Calls Tryz.prog 88 #[v, .int .i64 n, .int .i64 t] w fun e w' => ∃ v', e = .returned (.tuple #[v', .int .i64 (ssE (eds L) n t)]) ∧ OwnZ w' w.heap.size v' (ssL (eds L) n t) ∧ Ext w w' := by
  have hs := hide (cstarts_c L v w hC)
  obtain ⟨A, cap, rfl, hlc, hlm, -⟩ := ew_form hC
  clear hC
  by_cases c1 : n < 1
  · have e1 : ssE (eds L) n t = 2 := by unfold ssE; rw [if_neg (by omega)]
    have e2 : ssL (eds L) n t = [] := by unfold ssL; rw [e1]; rfl
    rw [e1, e2]
    clear e1 e2
    go_enter Tryz.func88, Tryz.ntmps88
    go_wp2_with fail
    go_returns
    exact ⟨_, rfl, World.ownsRow_nil _ _ _ _, Ext.refl _⟩
  by_cases c2 : 64 < n
  · have e1 : ssE (eds L) n t = 2 := by unfold ssE; rw [if_neg (by omega)]
    have e2 : ssL (eds L) n t = [] := by unfold ssL; rw [e1]; rfl
    rw [e1, e2]
    clear e1 e2
    go_enter Tryz.func88, Tryz.ntmps88
    go_wp2_with fail
    go_returns
    exact ⟨_, rfl, World.ownsRow_nil _ _ _ _, Ext.refl _⟩
  obtain ⟨E, hE⟩ : ∃ E, E = csE (eds L) := ⟨_, rfl⟩
  obtain ⟨D, hD⟩ : ∃ D, D = csL (eds L) := ⟨_, rfl⟩
  rw [← hE, ← hD] at hs
  by_cases hE0 : E = 0
  case neg =>
    have e1 : ssE (eds L) n t = E := by unfold ssE; rw [if_pos (by omega), if_neg (by rw [← hE]; exact hE0), hE]
    have e2 : ssL (eds L) n t = [] := by unfold ssL; rw [e1, if_neg hE0]
    rw [e1, e2]
    have hb : (E != 0) = true := by simpa using hE0
    replace hE := hide hE
    replace hD := hide hD
    clear e1 e2
    go_enter Tryz.func88, Tryz.ntmps88
    go_wp2_with (go_at_call 136; refine hs.out.mono ?_; rintro ee w1 ⟨v1, rfl, ho1, hX1⟩; have hX2 := hide hX1; obtain ⟨A1, c1, q1⟩ := own_form ho1; subst q1; clear ho1 hX1)
    go_returns
    exact ⟨_, rfl, World.ownsRow_nil _ _ _ _, hX2.out⟩
  subst hE0
  have hDe : D = csT (eds L) := by rw [hD]; unfold csL; rw [← hE, if_pos rfl]
  by_cases c3 : t < 0
  · have e1 : ssE (eds L) n t = 13 := by unfold ssE; rw [if_pos (by omega), if_pos hE.symm, if_neg (by omega)]
    have e2 : ssL (eds L) n t = [] := by unfold ssL; rw [e1]; rfl
    rw [e1, e2]
    replace hE := hide hE
    replace hD := hide hD
    replace hDe := hide hDe
    clear e1 e2
    go_enter Tryz.func88, Tryz.ntmps88
    go_wp2_with (go_at_call 136; refine hs.out.mono ?_; rintro ee w1 ⟨v1, rfl, ho1, hX1⟩; have hX2 := hide hX1; obtain ⟨A1, c1, q1⟩ := own_form ho1; subst q1; clear ho1 hX1)
    go_returns
    exact ⟨_, rfl, World.ownsRow_nil _ _ _ _, hX2.out⟩
  by_cases c4 : 1125899906842624 < t
  · have e1 : ssE (eds L) n t = 13 := by unfold ssE; rw [if_pos (by omega), if_pos hE.symm, if_neg (by omega)]
    have e2 : ssL (eds L) n t = [] := by unfold ssL; rw [e1]; rfl
    rw [e1, e2]
    replace hE := hide hE
    replace hD := hide hD
    replace hDe := hide hDe
    clear e1 e2
    go_enter Tryz.func88, Tryz.ntmps88
    go_wp2_with (go_at_call 136; refine hs.out.mono ?_; rintro ee w1 ⟨v1, rfl, ho1, hX1⟩; have hX2 := hide hX1; obtain ⟨A1, c1, q1⟩ := own_form ho1; subst q1; clear ho1 hX1)
    go_returns
    exact ⟨_, rfl, World.ownsRow_nil _ _ _ _, hX2.out⟩
  have e1 : ssE (eds L) n t = 0 := by unfold ssE; rw [if_pos (by omega), if_pos hE.symm, if_pos (by omega)]
  have e2 : ssL (eds L) n t = D := by unfold ssL; rw [e1, if_pos rfl, hDe]
  rw [e1, e2]
  replace hE := hide hE
  replace hD := hide hD
  replace hDe := hide hDe
  clear e1 e2
  go_enter Tryz.func88, Tryz.ntmps88
  go_wp2_with (go_at_call 136; refine hs.out.mono ?_; rintro ee w1 ⟨v1, rfl, ho1, hX1⟩; have hX2 := hide hX1; have ho2 := hide ho1; obtain ⟨A1, c1, q1⟩ := own_form ho1; subst q1; clear ho1 hX1)
  go_returns
  exact ⟨_, rfl, ho2.out, hX2.out⟩
end Go.Proofs.YtljkneajdndgjaaGreat
set_option linter.unusedVariables false
set_option linter.unusedSimpArgs false
namespace Go.Proofs.YtljkneajdndgjaaGreat
open Go.RowKit
attribute [local go_sem] GW.cell GW.frozen In.eq_true In.le_true In.ne In.ne' In.ne_add In.ne_add' In.lt_add Upto.le_true Upto.le_add Upto.lt_add
theorem csR_len : ∀ (G : List Gp), (∀ g ∈ G, g.2.length ≤ 1024) → (csR G).length ≤ G.length * 1024
  | [], _ => by simp [csR]
  | g :: G, h => by
    have h1 := csR_len G (fun x hx => h x (List.mem_cons_of_mem _ hx))
    have h2 := h g (by simp)
    have h3 := incL_len g.2
    rw [show csR (g :: G) = (incL g.2).map Prod.fst ++ csR G from rfl, List.length_append, List.length_map, List.length_cons]
    omega
theorem csT_asc (l : List Ed) : (csT l).Pairwise (· < ·) := insAll_asc _
theorem csT_len {l : List Ed} (hm : mayE l = true) : (csT l).length ≤ 4194304 := by
  have h1 := nodup_len (csT l) (csR (grp l)) (asc_nodup (csT_asc l)) (fun x hx => (insAll_mem _ x).1 hx)
  have h2 := csR_len (grp l) (fun g hg => mayJ_len ((mayE_iff.1 hm).2.2 g hg))
  have h3 := grp_len2 l
  have h4 := mayE_len hm
  omega
def coI (D : List Int) (n t : Int) : Nat := sbN D t - (n - 1).toNat
def coV (l : List Ed) (n t : Int) : Int := if ssE l n t = 0 then (if t = 1125899906842624 then 1125899906842624 else if coI (csT l) n t < sbN (csT l) t then (csT l).getD (coI (csT l) n t) 0 else t) else 0
theorem ssE_ok {l : List Ed} {n t : Int} (h : ssE l n t = 0) : (1 ≤ n ∧ n ≤ 64) ∧ (mayE l = true ∧ tabE l = true) ∧ (0 ≤ t ∧ t ≤ 1125899906842624) := by
  unfold ssE at h
  split at h
  case isFalse => exact absurd h (by decide)
  rename_i h1
  split at h
  case isFalse h2 => exact absurd h h2
  rename_i h2
  split at h
  case isFalse => exact absurd h (by decide)
  rename_i h3
  refine ⟨h1, ?_, h3⟩
  unfold csE at h2
  split at h2
  case isFalse => exact absurd h2 (by decide)
  rename_i h4
  split at h2
  case isFalse => exact absurd h2 (by decide)
  exact ⟨h4, by assumption⟩
set_option maxHeartbeats 4000000 in
set_option maxRecDepth 100000 in
theorem copen_c (L : List Ve) (n t : Int) (v : Value) (w : World) (hC : Ew w [] v L) : Calls Tryz.prog 34 #[v, .int .i64 n, .int .i64 t] w fun e w' => e = .returned (.tuple #[.int .i64 (coV (eds L) n t), .int .i64 (ssE (eds L) n t)]) ∧ Ext w w' := by
  have hs := hide (startsFor_c L n t v w hC)
  obtain ⟨A, cap, rfl, hlc, hlm, -⟩ := ew_form hC
  clear hC
  obtain ⟨E, hE⟩ : ∃ E, E = ssE (eds L) n t := ⟨_, rfl⟩
  obtain ⟨D, hD⟩ : ∃ D, D = ssL (eds L) n t := ⟨_, rfl⟩
  rw [← hE, ← hD] at hs
  rw [← hE]
  by_cases hE0 : E = 0
  case neg =>
    have e1 : coV (eds L) n t = 0 := by unfold coV; rw [← hE, if_neg hE0]
    rw [e1]
    have hb : (E != 0) = true := by simpa using hE0
    replace hE := hide hE
    replace hD := hide hD
    clear e1
    go_enter Tryz.func34, Tryz.ntmps34
    go_wp2_with (go_at_call 88; refine hs.out.mono ?_; rintro ee w1 ⟨v1, rfl, ho1, hX1⟩; have hX2 := hide hX1; obtain ⟨A1, c1, q1⟩ := own_form ho1; subst q1; clear ho1 hX1)
    go_returns
    exact ⟨by first | rfl | simp, hX2.out⟩
  subst hE0
  obtain ⟨⟨n1, n2⟩, ⟨hm, -⟩, t1, t2⟩ := ssE_ok hE.symm
  have hDe : D = csT (eds L) := by rw [hD]; unfold ssL; rw [← hE, if_pos rfl]
  have hDl : D.length ≤ 4194304 := by rw [hDe]; exact csT_len hm
  have hDa : Hid (D.Pairwise (· < ·)) := by rw [hDe]; exact csT_asc _
  by_cases c1 : t = 1125899906842624
  · have e1 : coV (eds L) n t = 1125899906842624 := by unfold coV; rw [← hE, if_pos rfl, if_pos c1]
    rw [e1]
    subst c1
    replace hE := hide hE
    replace hD := hide hD
    replace hDe := hide hDe
    replace hm := hide hm
    clear e1
    go_enter Tryz.func34, Tryz.ntmps34
    go_wp2_with (go_at_call 88; refine hs.out.mono ?_; rintro ee w1 ⟨v1, rfl, ho1, hX1⟩; have hX2 := hide hX1; obtain ⟨A1, c1, q1⟩ := own_form ho1; subst q1; clear ho1 hX1)
    go_returns
    exact ⟨by first | rfl | simp, hX2.out⟩
  have hb : (t == 1125899906842624) = false := by simpa using c1
  have hv : coV (eds L) n t = if coI D n t < sbN D t then D.getD (coI D n t) 0 else t := by unfold coV; rw [← hE, if_pos rfl, if_neg c1, hDe]
  have hcl : sbN D t ≤ D.length := List.countP_le_length
  obtain ⟨c, hc⟩ : ∃ c, c = sbN D t := ⟨_, rfl⟩
  obtain ⟨i, hi⟩ : ∃ i, i = coI D n t := ⟨_, rfl⟩
  have hi2 : i = c - (n - 1).toNat := by rw [hi, hc]; rfl
  rw [← hi, ← hc] at hv
  rw [← hc] at hcl
  have hbs := hide (fun v w' (h : OwnZ w' w.heap.size v D) => ibin_c w.heap.size D t v w' h (by omega) (hDa.out.imp fun {a b} h => by omega))
  rw [← hc] at hbs
  have hmax : max ((c : Int) - (n - 1)) 0 = (i : Int) := by omega
  rw [hv]
  replace hE := hide hE
  replace hD := hide hD
  replace hDe := hide hDe
  replace hm := hide hm
  replace hc := hide hc
  replace hi := hide hi
  replace hi2 := hide hi2
  clear hv
  by_cases hlt : i < c
  · have hgd : D[i]? = some (D.getD i 0) := by rw [List.getD_eq_getElem?_getD, List.getElem?_eq_getElem (by omega)]; rfl
    obtain ⟨x, hx⟩ : ∃ x, x = D.getD i 0 := ⟨_, rfl⟩
    rw [if_pos hlt, ← hx]
    rw [← hx] at hgd
    replace hx := hide hx
    go_enter Tryz.func34, Tryz.ntmps34
    go_wp2_with (first | (go_at_call 88; refine hs.out.mono ?_; rintro ee w1 ⟨v1, rfl, ho1, hX1⟩; have hX2 := hide hX1; have ho2 := hide ho1; have hb2 := hide (hbs.out v1 w1 ho1); obtain ⟨A1, cp1, q1⟩ := own_form ho1; subst q1; clear ho1 hX1) | (go_at_call 89; refine hb2.out.mono ?_; rintro ee w2 ⟨rfl, hX3⟩; obtain ⟨A', cp', e', -, -, hat⟩ := zw_form (own_zw (own_ext ho2.out hX3)); simp only [Value.slice.injEq] at e'; obtain ⟨rfl, -, rfl⟩ := e'; obtain ⟨g, o, rfl, -, hgl, k0⟩ := hat i x hgd; (haveI : In g w2 := ⟨hgl⟩); replace hX3 := hide hX3; clear hat))
    go_returns
    exact ⟨by first | rfl | simp, hX2.out.trans hX3.out⟩
  · rw [if_neg hlt]
    go_enter Tryz.func34, Tryz.ntmps34
    go_wp2_with (first | (go_at_call 88; refine hs.out.mono ?_; rintro ee w1 ⟨v1, rfl, ho1, hX1⟩; have hX2 := hide hX1; have ho2 := hide ho1; have hb2 := hide (hbs.out v1 w1 ho1); obtain ⟨A1, cp1, q1⟩ := own_form ho1; subst q1; clear ho1 hX1) | (go_at_call 89; refine hb2.out.mono ?_; rintro ee w2 ⟨rfl, hX3⟩; replace hX3 := hide hX3))
    go_returns
    exact ⟨by first | rfl | simp, hX2.out.trans hX3.out⟩
end Go.Proofs.YtljkneajdndgjaaGreat
set_option linter.unusedVariables false
set_option linter.unusedSimpArgs false
namespace Go.Proofs.YtljkneajdndgjaaGreat
open Go.RowKit
attribute [local go_sem] GW.cell GW.frozen In.eq_true In.le_true In.ne In.ne' In.ne_add In.ne_add' In.lt_add Upto.le_true Upto.le_add Upto.lt_add Oper.semAt_some wide_depth wide_fn
def begS (l : List Jp) (a b : Int) : Int := ((l.filter fun j => decide (a ≤ j.1) && decide (j.1 < b)).map Prod.snd).sum
/-- What begins in a window. -/
def begN (J : List Jp) (a b : Int) : Int := begS (incL J) a b
theorem begS_next {l : List Jp} {m : Nat} {j : Jp} (h : l[m]? = some j) (a b : Int) : begS (l.take (m + 1)) a b = begS (l.take m) a b + (if a ≤ j.1 ∧ j.1 < b then j.2 else 0) := by
  unfold begS
  rw [List.take_add_one, h, Option.toList_some, List.filter_append, List.map_append, List.sum_append]
  congr 1
  by_cases h1 : a ≤ j.1 <;> by_cases h2 : j.1 < b <;> simp [h1, h2]
theorem begS_in {l : List Jp} (hb : ∀ j ∈ l, 0 < j.2 ∧ j.2 ≤ 1048576) (a b : Int) : ∀ m, m ≤ l.length → 0 ≤ begS (l.take m) a b ∧ begS (l.take m) a b ≤ 1048576 * m
  | 0, _ => by simp [begS]
  | m + 1, h => by
    obtain ⟨j, hj⟩ : ∃ j, l[m]? = some j := ⟨_, List.getElem?_eq_getElem (by omega)⟩
    have h1 := begS_in hb a b m (by omega)
    have h2 := hb j (List.mem_of_getElem? hj)
    rw [begS_next hj]
    split <;> omega
theorem incL_net {J : List Jp} (hm : mayJ J = true) : ∀ j ∈ incL J, 0 < j.2 ∧ j.2 ≤ 1048576 := fun j hj => by
  unfold incL at hj
  obtain ⟨h1, h2⟩ := List.mem_filter.1 hj
  have := mayJ_net hm j h1
  simp at h2
  omega
abbrev IBe (w : World) (b3 b5 bj : Nat) (fv : Value) (J : List Jp) (a b : Int) (m : Nat) (W : World) : Prop :=
  (Ob W b5 3 [.int .i64 (begS ((incL J).take m) a b)] ∧ Ob W b3 49 [.int .i64 a, .int .i64 b]) ∧ ((Ob W bj 73 [fv] ∧ OwnJ W 0 fv J) ∧ Ext w W)
set_option maxHeartbeats 8000000 in
set_option maxRecDepth 100000 in
theorem begun_c (J : List Jp) (hm : mayJ J = true) (a b : Int) (v : Value) (w : World) (hJ : OwnJ w 0 v J) : Calls Tryz.prog 139 #[v, .agg #[.int .i64 a, .int .i64 b]] w fun e w' => e = .returned (.int .i64 (begN J a b)) ∧ Ext w w' := by
  have hJl : J.length ≤ 1024 := mayJ_len hm
  have hnet := hide (incL_net hm)
  have hil := incL_len J
  have hin := hide (begS_in (incL_net hm) a b)
  obtain ⟨JA, jcap, rfl⟩ := own_form hJ
  have hinc := hide (increases_c (.slice JA J.length jcap) J.length jcap JA rfl)
  have hJ' := hide hJ
  have hm' := hide hm
  clear hJ hm
  refine calls_marks Tryz.func139 rfl ?_
  simp only [Tryz.ntmps139, List.size_toArray, List.length_cons, List.length_nil, Nat.reduceAdd, Nat.reduceSub, Array.replicate_succ, Array.replicate_zero, List.push_toArray, List.append_toArray, List.nil_append, List.cons_append]
  go_wp2_with (go_at_call 171; refine (hinc.out _).mono ?_; rintro ee w1 ⟨rfl, pj, hX1⟩)
  have p3 : Ob w1 w.heap.size 49 [.int .i64 a, .int .i64 b] := (((Ob.new w 49 [.int .i64 a, .int .i64 b]).alloc _)).ext hX1
  have p5 : Ob w1 (w.heap.size + 1) 3 [.int .i64 0] := by
    have h := Ob.new (w.alloc (.cells #[.int .i64 a, .int .i64 b] 49)) 3 [.int .i64 0]
    rw [World.size_alloc] at h
    exact h.ext hX1
  have hXw : Ext w w1 := (((Ext.refl w).alloc _).alloc _).trans hX1
  rw [World.size_alloc, World.size_alloc] at pj
  have hzw := hXw.size
  have l3 := p3.lt
  have l5 := p5.lt
  have lj := pj.lt
  obtain ⟨b3, hb3⟩ : ∃ b3, b3 = w.heap.size := ⟨_, rfl⟩
  rw [← hb3] at p3 p5 pj l3 l5 lj ⊢
  obtain ⟨b5, hb5⟩ : ∃ b5, b5 = b3 + 1 := ⟨_, rfl⟩
  rw [← hb5] at p5 pj l5 lj ⊢
  obtain ⟨bj, hbj⟩ : ∃ bj, bj = b5 + 1 := ⟨_, rfl⟩
  rw [← hbj] at pj lj ⊢
  obtain ⟨i3, i5, ij⟩ : w.heap.size ≤ b3 ∧ b3 < b5 ∧ b5 < bj := by omega
  clear hb3 hb5 hbj hX1
  refine wp_rangeJ (xs := incL J) (Kp := KpI bj (.slice JA J.length jcap) J) rfl (enters_of Tryz.func199 (by kernel_rfl) rfl) (increases_seqj J (by omega) (.slice JA J.length jcap) w1 bj) (Ext.refl _) (fun x vs W h => by rw [h]; rfl) (fun x vs => Stab.pure _)
    (IBe w b3 b5 bj (.slice JA J.length jcap) J a b)
    (fun m A h => ⟨h.2.1.1, own_jw h.2.1.2 (by simp)⟩)
    (fun c m W => False)
    (fun m => ((Stab.ob _ _ _).and (Stab.ob _ _ _)).and (((Stab.ob _ _ _).and (Stab.own _ _ _ _ _ _)).and (Stab.of_ext hzw)))
    (fun c m => Stab.pure _)
    ⟨⟨p5, p3⟩, ⟨pj, own_ext hJ'.out hXw⟩, hXw⟩
    (fun m x vs a' W => ∃ b6, a' = { tmps := #[.slice JA J.length jcap, .agg #[.int .i64 a, .int .i64 b], undef, .pointer (some ⟨b3, 0, none⟩), .int .i64 0, .pointer (some ⟨b5, 0, none⟩), .pointer (some ⟨b6, 0, none⟩), .slice JA J.length jcap, .func (.func 199) #[] #[.pointer (some ⟨bj, 0, none⟩)], .agg #[.int .i64 x.1, .int .i64 x.2], undef, undef, undef, undef, undef, undef, undef, undef, undef, undef, undef, undef, undef, undef, undef, undef, undef], defers := [] } ∧ Ob W b6 125 [.int .i64 x.1, .int .i64 x.2])
    (fun m x vs a' => Stab.ex fun b6 => (Stab.pure _).and (Stab.ob _ _ _)) ?assign ?body ?done ?stop
  case assign =>
    rintro L2 m ⟨x, y⟩ vs W3 K hI3 rfl hK3
    gi_wp2
    exact hK3 _ _ ((Ext.refl W3).alloc _) ⟨W3.heap.size, rfl, Ob.new W3 _ [_, _]⟩
  case stop =>
    rintro D c m W hD hm2 h
    exact h.elim
  case body =>
    rintro L2 m ⟨x, y⟩ vs a' W4 hx2 ⟨⟨z5, z3⟩, ⟨zj, hf⟩, hX4⟩ rfl ⟨b6, rfl, z6⟩
    have hml : m < (incL J).length := (List.getElem?_eq_some_iff.1 hx2).1
    have hnx := hide (begS_next hx2 a b)
    have hy := hnet.out _ (List.mem_of_getElem? hx2)
    have hbd := hin.out m (by omega)
    simp only at hy z6
    obtain ⟨N, hN⟩ : ∃ N, N = begS ((incL J).take m) a b := ⟨_, rfl⟩
    rw [← hN] at z5 hbd hnx
    have k5 := z5.cell 0 rfl
    have f5 := z5.free 0
    have m5 := z5.lt
    have k30 := z3.cell 0 rfl
    have k31 := z3.cell 1 rfl
    have m3 := z3.lt
    have k60 := z6.cell 0 rfl
    have k61 := z6.cell 1 rfl
    have m6 := z6.lt
    haveI : In b5 W4 := ⟨m5⟩
    haveI : In b3 W4 := ⟨m3⟩
    haveI : In b6 W4 := ⟨m6⟩
    have z5' := hide z5
    have z3' := hide z3
    have zj' := hide zj
    have hf' := hide hf
    have hX4' := hide hX4
    replace hx2 := hide hx2
    replace hN := hide hN
    clear z5 z3 zj hf hX4 z6
    by_cases c1 : a ≤ x
    · by_cases c2 : x < b
      · gi_wp2_with fail
        have hF : Fr [b5] W4 (W4.setCell ⟨b5, 0, none⟩ (.int .i64 (N + y))) := (Fr.refl [b5] W4).setCell ⟨b5, 0, none⟩ _ (.inl (by simp))
        refine ⟨keeps_fr hF (fun q hq => by rw [List.mem_singleton] at hq; subst hq; exact ⟨_, _, z5'.out⟩), ⟨?_, z3'.out.far ⟨b5, 0, none⟩ _ (by show b3 ≠ b5; omega)⟩, ⟨zj'.out.far ⟨b5, 0, none⟩ _ (by show bj ≠ b5; omega), own_away hf'.out hF (fun q hq hm => ?_)⟩, hX4'.out.setCell (p := ⟨b5, 0, none⟩) (by show w.heap.size ≤ b5; omega) _⟩
        · rw [hnx.out, if_pos ⟨c1, c2⟩]
          exact z5'.out.set 0 _
        · rw [List.mem_singleton] at hq
          subst hq
          obtain ⟨ds, d, hd⟩ := own_kind hf'.out hm
          exact no_kind z5'.out (by decide) ds d hd
      · gi_wp2_with fail
        exact ⟨keeps_ext (Ext.refl _), ⟨by rw [hnx.out, if_neg (by show ¬ (_ ∧ _); omega), Int.add_zero]; exact z5'.out, z3'.out⟩, ⟨zj'.out, hf'.out⟩, hX4'.out⟩
    · gi_wp2_with fail
      exact ⟨keeps_ext (Ext.refl _), ⟨by rw [hnx.out, if_neg (by show ¬ (_ ∧ _); omega), Int.add_zero]; exact z5'.out, z3'.out⟩, ⟨zj'.out, hf'.out⟩, hX4'.out⟩
  case done =>
    rintro D W hD ⟨⟨z5, z3⟩, -, hX4⟩ hK
    rw [List.take_length] at z5
    have k5 := z5.cell 0 rfl
    have m5 := z5.lt
    haveI : In b5 W := ⟨m5⟩
    have hX4' := hide hX4
    have hK' := hide hK
    clear z5 z3 hX4 hK
    go_wp2_with fail
    exact ret_mark hK'.out (v := .int .i64 (begN J a b)) (by simp [results, Tryz.f139, go_sem]; rfl) ⟨rfl, put_ext hX4'.out (by omega) _⟩
end Go.Proofs.YtljkneajdndgjaaGreat
set_option linter.unusedVariables false
set_option linter.unusedSimpArgs false
namespace Go.Proofs.YtljkneajdndgjaaGreat
open Go.RowKit
attribute [local go_sem] GW.cell GW.frozen In.eq_true In.le_true In.ne In.ne' In.ne_add In.ne_add' In.lt_add Upto.le_true Upto.le_add Upto.lt_add
theorem run_add_i64 {P : Program} {t : TypeId} (ht : P.underlying t = some (.int .i64)) (n m r : Int) (hr : n + m = r) (h : -9223372036854775808 ≤ r ∧ r ≤ 9223372036854775807) (w : World) : (binOp .add t (.int .i64 n) (.int .i64 m)).run P w = .ok (.int .i64 r) w := by
  subst hr
  have := IntWalk.i64_in _ h
  simp [go_sem, ht, this]
set_option maxHeartbeats 4000000 in
set_option maxRecDepth 100000 in
theorem life_c (g o m cap : Nat) (x y : Int) (hnl : m ≤ 64) (hy : -1 ≤ y ∧ y ≤ 1125899906842624) (w : World) (hg : g < w.heap.size) (k0 : w.cell? ⟨g, o, none⟩ = some (.int .i64 x)) (k1 : w.cell? ⟨g, o + m, none⟩ = some (.int .i64 y)) : Calls Tryz.prog 93 #[.slice (some ⟨g, o, none⟩) (m + 1) cap] w fun e w' => e = .returned (.agg #[.int .i64 x, .int .i64 (y + 1)]) ∧ Ext w w' := by
  haveI : In g w := ⟨hg⟩
  have hn1 : (0 : Int) < (m : Int) + 1 := by omega
  have hn2 : 0 < m + 1 := by omega
  have hn3 : m < m + 1 := by omega
  have hn4 : (m : Int) < (m : Int) + 1 := by omega
  replace k0 := cell_later ((Ext.refl w).alloc (.cells #[.int .i64 0, .int .i64 0] 49)) k0
  replace k1 := cell_later ((Ext.refl w).alloc (.cells #[.int .i64 0, .int .i64 0] 49)) k1
  replace k0 := hide k0
  replace k1 := hide k1
  have o0 := hide (Ob.new w 49 [.int .i64 0, .int .i64 0])
  refine calls_marks Tryz.func93 rfl ?_
  simp only [Tryz.ntmps93, List.size_toArray, List.length_cons, List.length_nil, Nat.reduceAdd, Nat.reduceSub, Array.replicate_succ, Array.replicate_zero, List.push_toArray, List.append_toArray, List.nil_append, List.cons_append]
  go_wp2_with fail
  refine wp_region_list_tail 11 [(.is ((.slice (some ⟨g, o, none⟩) (m + 1) cap))), (.is ((.pointer (some ⟨g, o, none⟩)))), (.is ((.int .i64 x))), (.is ((.slice (some ⟨g, o, none⟩) (m + 1) cap))), (.is ((.slice (some ⟨g, o, none⟩) (m + 1) cap))), (.is ((.int .i64 ((m + 1 : Nat) : Int)))), (.is ((.int .i64 (m : Int)))), (.is ((.pointer (some ⟨g, o + m, none⟩)))), (.is ((.int .i64 y))), (.is ((.int .i64 (y + 1)))), (.is ((.agg #[.int .i64 x, .int .i64 (y + 1)])))] (by kernel_rfl) (by kernel_rfl) (by kernel_rfl) (by kernel_rfl) (by kernel_rfl) (by kernel_rfl) (by kernel_rfl) ?_ ?_
  · refine ⟨?_, ?_, ?_, ?_, ?_, ?_, ?_, ?_, ?_, ?_, ?_, trivial⟩
    · intro b w' h hE
      have f0 : b.tmps.getD 0 undef = (.slice (some ⟨g, o, none⟩) (m + 1) cap) := hE 0 (of_decide_eq_true (by kernel_rfl))
      exact good_move (wanted_none rfl) rfl f0
    · intro b w' h hE
      have f3 : b.tmps.getD 3 undef = (.slice (some ⟨g, o, none⟩) (m + 1) cap) := h.dep 0 _ 3 (by kernel_rfl) rfl rfl
      exact good_index (wanted_none rfl) rfl f3 rfl (by simp [go_sem, hn1, hn2, hn3, hn4]) rfl
    · intro b w' h hE
      have f4 : b.tmps.getD 4 undef = (.pointer (some ⟨g, o, none⟩)) := h.dep 1 _ 4 (by kernel_rfl) rfl rfl
      have c0 := cell_later h.ext k0.out
      exact good_load (wanted_none rfl) rfl f4 (by simp [go_sem, c0]) rfl
    · intro b w' h hE
      have f0 : b.tmps.getD 0 undef = (.slice (some ⟨g, o, none⟩) (m + 1) cap) := hE 0 (of_decide_eq_true (by kernel_rfl))
      exact good_move (wanted_none rfl) rfl f0
    · intro b w' h hE
      have f0 : b.tmps.getD 0 undef = (.slice (some ⟨g, o, none⟩) (m + 1) cap) := hE 0 (of_decide_eq_true (by kernel_rfl))
      exact good_move (wanted_none rfl) rfl f0
    · intro b w' h hE
      have f7 : b.tmps.getD 7 undef = (.slice (some ⟨g, o, none⟩) (m + 1) cap) := h.dep 4 _ 7 (by kernel_rfl) rfl rfl
      exact good_len (wanted_none rfl) rfl rfl f7 rfl
    · intro b w' h hE
      have f8 : b.tmps.getD 8 undef = (.int .i64 ((m + 1 : Nat) : Int)) := h.dep 5 _ 8 (by kernel_rfl) rfl rfl
      exact good_bin (wanted_none rfl) rfl f8 rfl (by rfl) (run_sub_i64 Tryz.underlying3 _ _ _ (by omega) (by omega) _) rfl
    · intro b w' h hE
      have f6 : b.tmps.getD 6 undef = (.slice (some ⟨g, o, none⟩) (m + 1) cap) := h.dep 3 _ 6 (by kernel_rfl) rfl rfl
      have f9 : b.tmps.getD 9 undef = (.int .i64 (m : Int)) := h.dep 6 _ 9 (by kernel_rfl) rfl rfl
      exact good_index (wanted_none rfl) rfl f6 f9 (by simp [go_sem, hn1, hn2, hn3, hn4]) rfl
    · intro b w' h hE
      have f10 : b.tmps.getD 10 undef = (.pointer (some ⟨g, o + m, none⟩)) := h.dep 7 _ 10 (by kernel_rfl) rfl rfl
      have c0 := cell_later h.ext k1.out
      exact good_load (wanted_none rfl) rfl f10 (by simp [go_sem, c0]) rfl
    · intro b w' h hE
      have f11 : b.tmps.getD 11 undef = (.int .i64 y) := h.dep 8 _ 11 (by kernel_rfl) rfl rfl
      exact good_bin (wanted_none rfl) rfl f11 rfl (by rfl) (run_add_i64 Tryz.underlying3 _ _ _ rfl (by omega) _) rfl
    · intro b w' h hE
      have f5 : b.tmps.getD 5 undef = (.int .i64 x) := h.dep 2 _ 5 (by kernel_rfl) rfl rfl
      have g5 : b.tmps[5]?.getD undef = (.int .i64 x) := by rw [← Array.getD_eq_getD_getElem?]; exact f5
      have f12 : b.tmps.getD 12 undef = (.int .i64 (y + 1)) := h.dep 9 _ 12 (by kernel_rfl) rfl rfl
      have g12 : b.tmps[12]?.getD undef = (.int .i64 (y + 1)) := by rw [← Array.getD_eq_getD_getElem?]; exact f12
      exact good_run (wanted_none rfl) (by simp [execOp, Act.eval, go_sem, g5, g12, Sem.run_bind, Sem.run_pure, Result.andThen_ok]) rfl
  · intro b w2 hX2 hd hz he' hf
    have e3 : b.tmps.getD 3 undef = (.slice (some ⟨g, o, none⟩) (m + 1) cap) := hf 0 _ 3 (by omega) rfl rfl
    have e4 : b.tmps.getD 4 undef = (.pointer (some ⟨g, o, none⟩)) := hf 1 _ 4 (by omega) rfl rfl
    have e5 : b.tmps.getD 5 undef = (.int .i64 x) := hf 2 _ 5 (by omega) rfl rfl
    have e6 : b.tmps.getD 6 undef = (.slice (some ⟨g, o, none⟩) (m + 1) cap) := hf 3 _ 6 (by omega) rfl rfl
    have e7 : b.tmps.getD 7 undef = (.slice (some ⟨g, o, none⟩) (m + 1) cap) := hf 4 _ 7 (by omega) rfl rfl
    have e8 : b.tmps.getD 8 undef = (.int .i64 ((m + 1 : Nat) : Int)) := hf 5 _ 8 (by omega) rfl rfl
    have e9 : b.tmps.getD 9 undef = (.int .i64 (m : Int)) := hf 6 _ 9 (by omega) rfl rfl
    have e10 : b.tmps.getD 10 undef = (.pointer (some ⟨g, o + m, none⟩)) := hf 7 _ 10 (by omega) rfl rfl
    have e11 : b.tmps.getD 11 undef = (.int .i64 y) := hf 8 _ 11 (by omega) rfl rfl
    have e12 : b.tmps.getD 12 undef = (.int .i64 (y + 1)) := hf 9 _ 12 (by omega) rfl rfl
    have e13 : b.tmps.getD 13 undef = (.agg #[.int .i64 x, .int .i64 (y + 1)]) := hf 10 _ 13 (by omega) rfl rfl
    have e := frame_puts hd hz he'
    obtain ⟨X, hXx⟩ : ∃ X : Nat → Value, ∀ d, b.tmps.getD d undef = X d := ⟨_, fun _ => rfl⟩
    rw [hXx] at e3 e4 e5 e6 e7 e8 e9 e10 e11 e12 e13
    rw [show dstsOf _ = [3, 4, 5, 6, 7, 8, 9, 10, 11, 12, 13] from rfl] at e
    simp only [List.foldl_cons, List.foldl_nil, hXx, Act.put, List.setIfInBounds_toArray, List.set_cons_succ, List.set_cons_zero] at e
    rw [e3, e4, e5, e6, e7, e8, e9, e10, e11, e12, e13] at e
    clear hf he' hz hd hXx e3 e4 e5 e6 e7 e8 e9 e10 e11 e12 e13
    subst e
    have hzw := hX2.size
    simp only [List.drop_succ_cons, List.drop_zero]
    have o2 := o0.out.ext hX2
    have z0 := o2.cell 0 rfl
    have z1 := o2.cell 1 rfl
    have y0 := o2.free 0
    have y1 := o2.free 1
    have ll := o2.lt
    (haveI : In w.heap.size w2 := ⟨ll⟩)
    replace o2 := hide o2
    replace hX2 := hide hX2
    have i0 : In w.heap.size w2 := ⟨ll⟩
    go_wp2_with fail
    have q2 := (o2.out.set 0 (.int .i64 x)).set 1 (.int .i64 (y + 1))
    have u0 := q2.cell 0 rfl
    have u1 := q2.cell 1 rfl
    exact ret_plain (v := .agg #[.int .i64 x, .int .i64 (y + 1)]) (by simp [results, Tryz.f93, go_sem, u0, u1]) ⟨rfl, ((((Ext.refl w).alloc _).trans hX2.out).setCell (p := ⟨w.heap.size, 0, none⟩) (Nat.le_refl _) _).setCell (p := ⟨w.heap.size, 1, none⟩) (Nat.le_refl _) _⟩
end Go.Proofs.YtljkneajdndgjaaGreat
