/-
  A helper of ours: no claim of its own. Layer 29 (counts): the windows and their rows, by the code.
-/
import Derived.Test.YtljkneajdndgjaaGreatCouH
import Derived.Test.YtljkneajdndgjaaGreatHopT
import Derived.Test.YtljkneajdndgjaaGreatEdgO
import Derived.Test.YtljkneajdndgjaaGreatHopL
import Derived.Test.YtljkneajdndgjaaGreatSnaF
set_option linter.unusedVariables false
set_option linter.unusedSimpArgs false
namespace Go.Proofs.YtljkneajdndgjaaGreat
open Go.RowKit
/-- The windows of n of so many starts. -/
def cwS (D : List Int) (n : Nat) : List (Int × Int) := (List.range (D.length + 1 - n)).map fun i => (D.getD i 0, D.getD (i + n - 1) 0 + 1)
def cpD (l : List Ed) (t : Int) : List Int := (csT l).drop (sbN (csT l) t)
def cpE (l : List Ed) (n t : Int) : Int := if ssE l n t = 0 then (if 1024 < (cpD l t).length + 1 - n.toNat then 7 else 0) else ssE l n t
def cpT (l : List Ed) (n t : Int) : List Pt := (cwS (cpD l t) n.toNat).map fun s => (s, cfR (grp l) s)
def cpL (l : List Ed) (n t : Int) : List Pt := if cpE l n t = 0 then cpT l n t else []
theorem cwS_len (D : List Int) (n : Nat) : (cwS D n).length = D.length + 1 - n := by simp [cwS]
/-- Sorted lists, cut at a place. -/
theorem asc_take {D : List Int} (h : D.Pairwise (· < ·)) (T : Int) : D.filter (fun x => decide (x < T)) = D.take (sbN D T) := by
  induction D with
  | nil => rfl
  | cons a D ih =>
    obtain ⟨h1, h2⟩ := List.pairwise_cons.1 h
    unfold sbN at ih ⊢
    rw [List.filter_cons, List.countP_cons]
    by_cases c : a < T
    · rw [if_pos (by simpa using c), if_pos (by simpa using c), List.take_succ_cons, ih h2]
    · have h0 : D.filter (fun x => decide (x < T)) = [] := List.filter_eq_nil_iff.2 fun x hx => by have := h1 x hx; simp; omega
      rw [if_neg (by simpa using c), if_neg (by simpa using c), List.countP_eq_length_filter, h0]
      rfl
theorem asc_drop {D : List Int} (h : D.Pairwise (· < ·)) (T : Int) : D.filter (fun x => decide (T ≤ x)) = D.drop (sbN D T) := by
  induction D with
  | nil => rfl
  | cons a D ih =>
    obtain ⟨h1, h2⟩ := List.pairwise_cons.1 h
    unfold sbN at ih ⊢
    rw [List.filter_cons, List.countP_cons]
    by_cases c : a < T
    · rw [if_neg (by simpa using c), if_pos (by simpa using c), List.drop_succ_cons, ih h2]
    · have h0 : D.countP (fun x => decide (x < T)) = 0 := by rw [List.countP_eq_zero]; intro x hx; have := h1 x hx; simp; omega
      have h3 : D.filter (fun x => decide (T ≤ x)) = D := List.filter_eq_self.2 fun x hx => by have := h1 x hx; simp; omega
      rw [if_pos (by simpa using c), if_neg (by simpa using c), h3, h0]
      rfl
theorem sbN_le (D : List Int) (T : Int) : sbN D T ≤ D.length := List.countP_le_length
theorem asc_at {D : List Int} (h : D.Pairwise (· < ·)) {T : Int} {i : Nat} (hi : i < D.length) : D.getD i 0 < T ↔ i < sbN D T := by
  have e1 := asc_take h T
  have e2 := asc_drop h T
  have hg : D.getD i 0 = D[i] := by rw [List.getD_eq_getElem?_getD, List.getElem?_eq_getElem hi]; rfl
  rw [hg]
  have hl := sbN_le D T
  constructor
  · intro c
    refine Classical.byContradiction fun hn => ?_
    have hm : D[i] ∈ D.drop (sbN D T) := List.mem_drop_iff_getElem.2 ⟨i - sbN D T, by omega, by congr 1; omega⟩
    rw [← e2] at hm
    have := (List.mem_filter.1 hm).2
    simp at this
    omega
  · intro c
    have hm : D[i] ∈ D.take (sbN D T) := List.mem_take_iff_getElem.2 ⟨i, by omega, rfl⟩
    rw [← e1] at hm
    have := (List.mem_filter.1 hm).2
    simpa using this
/-- Starts of a table. -/
theorem csT_mem {l : List Ed} (hm : mayE l = true) (x : Int) : x ∈ csT l ↔ ∃ r, ∃ j ∈ incL (jmps l r), j.1 = x := by
  unfold csT csR
  rw [insAll_mem, List.mem_flatMap, grp_eq (mayE_rise hm)]
  constructor
  · rintro ⟨g, hg, hx⟩
    obtain ⟨r, hr, rfl⟩ := List.mem_map.1 hg
    obtain ⟨j, hj, rfl⟩ := List.mem_map.1 hx
    exact ⟨r, j, hj, rfl⟩
  · rintro ⟨r, j, hj, rfl⟩
    have hr : r ∈ rowsL l := by
      rw [mem_rows (mayE_rise hm).1]
      intro e
      rw [e] at hj
      simp [incL] at hj
    exact ⟨(r, jmps l r), List.mem_map.2 ⟨r, hr, rfl⟩, List.mem_map.2 ⟨j, hj, rfl⟩⟩
theorem csT_in {l : List Ed} (hm : mayE l = true) {x : Int} (h : x ∈ csT l) : 0 ≤ x ∧ x < 1125899906842624 := by
  obtain ⟨r, j, hj, rfl⟩ := (csT_mem hm x).1 h
  unfold incL at hj
  obtain ⟨h1, h2⟩ := List.mem_filter.1 hj
  have := mayJ_at (mayJ_jmps hm r) j h1
  simp at h2
  omega
section
variable {l m : List Ed} {T : Int}
theorem cfR_rows (hm : mayE l = true) (s : Int × Int) : cfR (grp l) s = ((rowsL l).filter fun r => decide (0 < begN (jmps l r) s.1 s.2)).map fun r => (r, begN (jmps l r) s.1 s.2) := by
  unfold cfR
  rw [grp_eq (mayE_rise hm)]
  unfold byRows
  rw [List.filter_map, List.map_map]
  rfl
end
section
variable {l m : List Ed} {n t : Int}
end
section
variable {l : List Ed} {n t T : Int}
end
end Go.Proofs.YtljkneajdndgjaaGreat
set_option linter.unusedVariables false
set_option linter.unusedSimpArgs false
namespace Go.Proofs.YtljkneajdndgjaaGreat
open Go.RowKit
def wmay (k s h : Int) : Bool := if k = 1 then decide (s = 0) && decide (h = 0) else if k = 2 then hlen s && hlen h else if k = 3 then (decide (1 ≤ s) && decide (s ≤ 64)) && decide (h = 0) else false
def wrE (k s h : Int) (l : List Ed) (t : Int) : Int := if wmay k s h = true ∧ mayE l = true then (if tabE l = true then (if stick t = true then 0 else 13) else 20) else 2
def wcV (k s h : Int) (l : List Ed) (t : Int) : Int := if wrE k s h l t = 0 then (if k = 2 then min t (hopV s h t) else if k = 3 then coV l s t else t) else 0
def frV (l : List Ed) (t : Int) : Int := l.foldl (fun t e => if 0 < e.2.2 then max t (e.2.1 + 1) else t) t
def wpE (k s h : Int) (l : List Ed) (f t : Int) : Int := if wrE k s h l t = 0 then (if k = 2 then hpE l s h f (frV l t) else if k = 3 then cpE l s f else snE l f) else wrE k s h l t
def wpL (k s h : Int) (l : List Ed) (f t : Int) : List Pt := if wrE k s h l t = 0 then (if k = 2 then hpL l s h f (frV l t) else if k = 3 then cpL l s f else snL l f) else []
theorem wmay_kind {k s h : Int} (e : wmay k s h = true) : (k = 1 ∧ s = 0 ∧ h = 0) ∨ (k = 2 ∧ hlen s = true ∧ hlen h = true) ∨ (k = 3 ∧ (1 ≤ s ∧ s ≤ 64) ∧ h = 0) := by
  unfold wmay at e
  split at e
  · simp at e; exact .inl ⟨by assumption, e.1, e.2⟩
  · split at e
    · simp at e; exact .inr (.inl ⟨by assumption, e.1, e.2⟩)
    · split at e
      · simp at e; exact .inr (.inr ⟨by assumption, ⟨e.1.1, e.1.2⟩, e.2⟩)
      · cases e
theorem wrE_zero {k s h : Int} {l : List Ed} {t : Int} (e : wrE k s h l t = 0) : wmay k s h = true ∧ mayE l = true ∧ tabE l = true ∧ (0 ≤ t ∧ t ≤ 1125899906842624) := by
  unfold wrE at e
  split at e
  case isFalse => exact absurd e (by decide)
  rename_i h1
  split at e
  case isFalse => exact absurd e (by decide)
  rename_i h2
  split at e
  case isFalse => exact absurd e (by decide)
  rename_i h3
  exact ⟨h1.1, h1.2, h2, stick_iff.1 h3⟩
theorem hopE_of {s h t : Int} (h1 : hlen s = true) (h2 : hlen h = true) (h4 : 0 ≤ t ∧ t ≤ 1125899906842624) : hopE s h t = 0 := by
  unfold hopE
  rw [if_pos ⟨h1, h2⟩, if_pos (htick_iff.2 h4)]
theorem ssE_of {l : List Ed} {n t : Int} (h1 : 1 ≤ n ∧ n ≤ 64) (h2 : mayE l = true) (h3 : tabE l = true) (h4 : 0 ≤ t ∧ t ≤ 1125899906842624) : ssE l n t = 0 := by
  unfold ssE
  rw [if_pos h1, if_pos (show csE l = 0 by unfold csE; rw [if_pos h2, if_pos h3]), if_pos h4]
section
variable {l m : List Ed} {T : Int}
end
section
variable {k s h : Int} {l m : List Ed} {t u : Int}
end
end Go.Proofs.YtljkneajdndgjaaGreat
set_option linter.unusedVariables false
set_option linter.unusedSimpArgs false
namespace Go.Proofs.YtljkneajdndgjaaGreat
open Go.RowKit
attribute [local go_sem] GW.cell GW.frozen In.eq_true In.le_true In.ne In.ne' In.ne_add In.ne_add' In.lt_add Upto.le_true Upto.le_add Upto.lt_add Oper.semAt_some wide_depth wide_fn
set_option maxHeartbeats 4000000 in
set_option maxRecDepth 100000 in
theorem groupsOf_nil (A : Option Addr) (cap n : Nat) (hn : 1 ≤ n ∧ n ≤ 64) (w : World) : Calls Tryz.prog 92 #[.slice A 0 cap, .int .i64 n] w fun e w' => e = .returned (.slice none 0 0) ∧ Ext w w' := by
  obtain ⟨n1, n2⟩ := hn
  have h1 : ¬ (n : Int) ≤ 0 := by omega
  have h2 : (0 : Int) < (n : Int) := by omega
  go_enter Tryz.func92, Tryz.ntmps92
  go_wp2_with fail
  go_loopg [5, 6] 1 (fun gh u i wr => u = .slice none 0 0 ∧ i = .int .i64 0 ∧ gh = 1 ∧ wr = w)
  case atStart => exact ⟨rfl, rfl, rfl, rfl⟩
  case round =>
    obtain ⟨rfl, rfl, rfl, rfl⟩ := hrel
    go_wp2_with fail
    go_returns
    exact ⟨rfl, Ext.refl _⟩
set_option maxHeartbeats 8000000 in
set_option maxRecDepth 100000 in
theorem fill_nil (L : List Ve) (hm : mayE (eds L) = true) (lv : Value) (w : World) (hL : Ew w [] lv L) : Calls Tryz.prog 94 #[.slice none 0 0, lv] w fun e w' => e = .returned (.tuple #[]) ∧ Ext w w' := by
  have hgr := hide (fun w' (hX : Ext w w') => groups_d L lv w' (hL.ext hX))
  obtain ⟨A, lcap, rfl, hlc, hlm, -⟩ := ew_form hL
  unfold maxLen at hlm
  have hGm : Hid (∀ g ∈ grp (eds L), mayJ g.2 = true ∧ g.1.length ≤ 8) := fun g hg => ⟨(mayE_iff.1 hm).2.2 g hg, grp_r8 hm g hg⟩
  have hLl : L.length ≤ 4096 := by have := mayE_len hm; simpa [eds] using this
  clear hL
  refine calls_marks Tryz.func94 rfl ?_
  simp only [Tryz.ntmps94, List.size_toArray, List.length_cons, List.length_nil, Nat.reduceAdd, Nat.reduceSub, Array.replicate_succ, Array.replicate_zero, List.push_toArray, List.append_toArray, List.nil_append, List.cons_append]
  go_wp2_with (go_at_call 106; refine (hgr.out _ ((Ext.refl w).alloc _)).mono ?_; rintro ee w1 ⟨b, rfl, v1, M, hb, hM, hMe, hX1⟩)
  rw [if_pos hm] at hM
  have p2 : Ob w1 w.heap.size 34 [.slice none 0 0] := (Ob.new w 34 [.slice none 0 0]).ext hX1
  have hXw : Ext w w1 := ((Ext.refl w).alloc _).trans hX1
  have hzw := hXw.size
  have hMx := hide (hMe [] (by simp))
  obtain ⟨b2, hb2⟩ : ∃ b2, b2 = w.heap.size := ⟨_, rfl⟩
  rw [← hb2] at p2 ⊢
  clear hgr hX1 hMe hb2
  rw [← hM] at hGm
  have hML : M.length ≤ 4096 := by have := congrArg List.length hM; simp only [eds, List.length_map] at this; omega
  replace hM := hide hM
  refine wp_rangeQ (X := []) (xs := grp (eds M)) rfl (enters_of Tryz.func146 (by kernel_rfl) rfl) (groups_seqq [] M v1 w1 w1 b hMx.out (by omega) (fun g hg => Nat.le_trans (hGm.out g hg).2 (by omega)) (Ext.refl _) hb) (Ext.refl _) (Nat.le_refl _) (fun x vs W h => h.size) (fun x vs => Hgg.stab x vs)
    (fun k W => Ob W b2 34 [.slice none 0 0] ∧ Ext w W)
    (fun c k W => False)
    (fun k => (Stab.ob _ _ _).and (Stab.of_ext hzw))
    (fun c k => Stab.pure _)
    ⟨p2, hXw⟩
    (fun k x vs a' _ => ∃ r' f', vs = #[r', f'] ∧ a' = { tmps := #[.slice none 0 0, .slice A L.length lcap, .pointer (some ⟨b2, 0, none⟩), undef, r', f', undef, undef, undef, .slice A L.length lcap, .func (.func 146) #[] #[.pointer (some ⟨b, 0, none⟩)], r', f', undef, undef, undef, undef, undef, undef, undef, undef, undef, undef, undef, undef, undef, undef, undef, undef, undef, undef, undef, undef, undef, undef, undef, undef, undef, undef], defers := [] })
    (fun k x vs a' => Stab.pure _) ?assign ?body ?done ?stop
  case assign =>
    rintro LL k x vs W K _ ⟨r', f', rfl, -, -⟩ hK
    gi_wp2
    exact hK _ _ (Ext.refl _) ⟨_, _, rfl, rfl⟩
  case stop =>
    rintro D c k W hD hk h
    exact h.elim
  case done =>
    rintro D W hD2 ⟨-, hX⟩ hK
    go_wp2_with fail
    refine ret_mark hK (v := .tuple #[]) ?_ ⟨rfl, put_ext hX (by omega) _⟩
    simp [results, Tryz.f94, go_sem]
  case body =>
    rintro LL k ⟨q, J⟩ vs a' Wo hL2 hrec hx ⟨hb2, hX⟩ ⟨rv, fv, e', hr', hf'⟩ ⟨rv', fv', rfl, rfl⟩
    have k2 := hb2.cell 0 rfl
    have m2 := hb2.lt
    haveI : In b2 Wo := ⟨m2⟩
    have hb2' := hide hb2
    have hX' := hide hX
    clear hb2 hX hx hrec
    gi_wp2
    gi_loopg [15] 1 (fun gh i wr => i = .int .i64 0 ∧ gh = 1 ∧ wr = Wo)
    case atStart => exact ⟨rfl, rfl, rfl⟩
    case round =>
      obtain ⟨rfl, rfl, rfl⟩ := hrel
      gi_wp2
      exact ⟨keeps_ext (Ext.refl _), BelX.refl _ _ _, ⟨hb2'.out, hX'.out⟩, Qk.of_ext (Ext.refl _)⟩
end Go.Proofs.YtljkneajdndgjaaGreat
set_option linter.unusedVariables false
set_option linter.unusedSimpArgs false
namespace Go.Proofs.YtljkneajdndgjaaGreat
open Go.RowKit
attribute [-go_sem] sliced
attribute [local go_sem] sliced_eq
attribute [local go_sem] GW.cell GW.frozen In.eq_true In.le_true In.ne In.ne' In.ne_add In.ne_add' In.lt_add Upto.le_true Upto.le_add Upto.lt_add
/-- Each n starts from the c-th on, wherever they lie. -/
theorem groupsOf_any (D : List Int) (B : Nat) (A : Option Addr) (cap : Nat) (w1 : World) (h : OwnZ w1 B (.slice A D.length cap) D) (hDl : D.length ≤ 4194304) (c n : Nat) (hc : c ≤ D.length) (hn : 1 ≤ n ∧ n ≤ 64) (w : World) : Calls Tryz.prog 92 #[.slice (cutA A c cap 1) (D.length - c) (cap - c), .int .i64 (n : Int)] w fun e w' => ∃ u g, e = .returned u ∧ w'.ownsRow w.heap.size 78 1 u (D.length - c + 1 - n) (gvs g c n (D.length - c + 1 - n)) ∧ (0 < D.length - c + 1 - n → A = some ⟨g, 0, none⟩) ∧ Ext w w' := by
  rcases Nat.eq_zero_or_pos (D.length - c) with h0 | h0
  · have hk : D.length - c + 1 - n = 0 := by omega
    rw [hk, h0]
    refine (groupsOf_nil _ _ n hn w).mono ?_
    rintro e w' ⟨rfl, hX⟩
    exact ⟨_, 0, rfl, World.ownsRow_nil _ _ _ _, fun k => absurd k (by omega), hX⟩
  · rcases h.2 with ⟨e, k0⟩ | ⟨g, cap', cur, e, hb, hg, hnc, hcm, hcs, ht⟩
    · omega
    · simp only [Value.slice.injEq] at e
      obtain ⟨rfl, -, rfl⟩ := e
      have e : cutA (some ⟨g, 0, none⟩) c cap 1 = some ⟨g, c, none⟩ := by
        unfold cutA
        by_cases k : cap = c
        · omega
        · rw [if_neg k]; simp [Addr.add]; omega
      rw [e]
      refine (groupsOf_c g c (D.length - c) (cap - c) n hn (by omega) (by omega) (by omega) w).mono ?_
      rintro e w' ⟨u, rfl, hO, hX⟩
      exact ⟨u, g, rfl, hO, fun _ => rfl, hX⟩
/-- So many windows, with no rows yet. -/
def cwP (S : List (Int × Int)) : List Vp := S.map fun s => (.slice none 0 0, s, [])
theorem cwP_len (S : List (Int × Int)) : (cwP S).length = S.length := by simp [cwP]
theorem cwP_dis : ∀ S : List (Int × Int), Dis (cwP S) := fun S => by
  unfold Dis
  rw [List.pairwise_iff_forall_sublist]
  intro a b h
  have ha : a ∈ cwP S := h.subset (by simp)
  obtain ⟨s, -, rfl⟩ := List.mem_map.1 ha
  intro x hx
  cases hx
theorem cwP_next {S : List (Int × Int)} {k : Nat} {s : Int × Int} (h : S[k]? = some s) : cwP (S.take (k + 1)) = cwP (S.take k) ++ [(.slice none 0 0, s, [])] := by
  unfold cwP
  rw [List.take_add_one, h, Option.toList_some, List.map_append]
  rfl
theorem cp_fin {P P' : List Vp} {S : List (Int × Int)} {G : List Gp} (hP : P = cwP S) (h1 : P'.map (fun p => p.2.1) = P.map fun p => p.2.1) (h2 : ∀ p ∈ P', cps p.2.2 = cfR G p.2.1) : pts P' = S.map fun s => (s, cfR G s) := by
  have e : P'.map (fun p => p.2.1) = S := by rw [h1, hP]; simp [cwP, Function.comp_def]
  rw [← e, List.map_map]
  exact List.map_congr_left fun p hp => by rw [h2 p hp]; rfl
set_option maxHeartbeats 8000000 in
set_option maxRecDepth 100000 in
theorem cpParts_c (L : List Ve) (n t : Int) (v : Value) (w : World) (hC : Ew w [] v L) : Calls Tryz.prog 41 #[v, .int .i64 n, .int .i64 t] w fun e w' => ∃ v' P, e = .returned (.tuple #[v', .int .i64 (cpE (eds L) n t)]) ∧ pts P = cpL (eds L) n t ∧ OwnP w' w.heap.size v' P ∧ Ext w w' := by
  have hs := hide (startsFor_c L n t v w hC)
  have hC' := hide hC
  obtain ⟨A, cap, rfl, hlc, hlm, -⟩ := ew_form hC
  clear hC
  obtain ⟨E, hE⟩ : ∃ E, E = ssE (eds L) n t := ⟨_, rfl⟩
  obtain ⟨D, hD⟩ : ∃ D, D = ssL (eds L) n t := ⟨_, rfl⟩
  rw [← hE, ← hD] at hs
  by_cases hE0 : E = 0
  case neg =>
    have e1 : cpE (eds L) n t = E := by unfold cpE; rw [← hE, if_neg hE0]
    have e2 : cpL (eds L) n t = [] := by unfold cpL; rw [e1, if_neg hE0]
    rw [e1, e2]
    have hb : (E != 0) = true := by simpa using hE0
    replace hE := hide hE
    replace hD := hide hD
    clear e1 e2
    go_enter Tryz.func41, Tryz.ntmps41
    go_wp2_with (go_at_call 88; refine hs.out.mono ?_; rintro ee w1 ⟨v1, rfl, ho1, hX1⟩; have hX2 := hide hX1; obtain ⟨A1, c1, q1⟩ := own_form ho1; subst q1; clear ho1 hX1)
    go_returns
    exact ⟨_, [], rfl, rfl, OwnP.nil _ _, hX2.out⟩
  subst hE0
  obtain ⟨⟨n1, n2⟩, ⟨hm, -⟩, t1, t2⟩ := ssE_ok hE.symm
  obtain ⟨m, rfl⟩ : ∃ m : Nat, n = ((m + 1 : Nat) : Int) := ⟨n.toNat - 1, by omega⟩
  have hDe : D = csT (eds L) := by rw [hD]; unfold ssL; rw [← hE, if_pos rfl]
  have hDl : D.length ≤ 4194304 := by rw [hDe]; exact csT_len hm
  have hDa : Hid (D.Pairwise (· < ·)) := by rw [hDe]; exact csT_asc _
  have hDin : Hid (∀ x ∈ D, 0 ≤ x ∧ x < 1125899906842624) := by rw [hDe]; exact fun x hx => csT_in hm hx
  have hcl : sbN D t ≤ D.length := List.countP_le_length
  obtain ⟨c, hc⟩ : ∃ c, c = sbN D t := ⟨_, rfl⟩
  rw [← hc] at hcl
  obtain ⟨K, hK⟩ : ∃ K, K = D.length - c + 1 - (m + 1) := ⟨_, rfl⟩
  obtain ⟨S, hS⟩ : ∃ S, S = cwS (D.drop c) (m + 1) := ⟨_, rfl⟩
  have hSl : S.length = K := by rw [hS, cwS_len, List.length_drop, hK]
  have eD : cpD (eds L) t = D.drop c := by unfold cpD; rw [← hDe, ← hc]
  have eE : cpE (eds L) ((m + 1 : Nat) : Int) t = if 1024 < K then 7 else 0 := by unfold cpE; rw [← hE, if_pos rfl, eD, List.length_drop, hK]; simp
  have eL : cpL (eds L) ((m + 1 : Nat) : Int) t = if 1024 < K then [] else S.map fun s => (s, cfR (grp (eds L)) s) := by
    unfold cpL
    rw [eE]
    by_cases k : 1024 < K
    · rw [if_pos k, if_pos k]; rfl
    · rw [if_neg k, if_neg k, if_pos rfl]; unfold cpT; rw [eD, hS]; simp
  rw [eE, eL]
  have hbs := hide (fun v w' (h : OwnZ w' w.heap.size v D) => ibin_c w.heap.size D t v w' h (by omega) (hDa.out.imp fun {a b} h => by omega))
  rw [← hc] at hbs
  have hgo := hide (fun A cap w1 (h : OwnZ w1 w.heap.size (.slice A D.length cap) D) w' => groupsOf_any D w.heap.size A cap w1 h hDl c (m + 1) hcl ⟨by omega, by omega⟩ w')
  rw [← hK] at hgo
  have hfn := hide (fun w' (hX : Ext w w') => fill_nil L hm _ w' (hC'.out.ext hX))
  have hcl1 : (c : Int) ≤ (D.length : Int) := by omega
  replace hE := hide hE
  replace hD := hide hD
  replace hDe := hide hDe
  replace hc := hide hc
  replace hK := hide hK
  replace hS := hide hS
  clear eD eE eL
  by_cases hfull : 1024 < K
  · rw [if_pos hfull, if_pos hfull]
    have hkk : (1024 : Int) < (K : Int) := by omega
    go_enter Tryz.func41, Tryz.ntmps41
    go_wp2_with (first | (go_at_call 88; refine hs.out.mono ?_; rintro ee w1 ⟨v1, rfl, ho1, hX1⟩; have hX2 := hide hX1; have hb2 := hide (hbs.out v1 w1 ho1); obtain ⟨A1, c1, q1⟩ := own_form ho1; subst q1; have hg2 := hide (hgo.out A1 c1 w1 ho1); clear ho1 hX1) | (go_at_call 89; refine hb2.out.mono ?_; rintro ee w2 ⟨rfl, hY⟩; have hX3 := hide (hX2.out.trans hY); clear hY) | (go_at_call 92; refine (hg2.out _).mono ?_; rintro ee w3 ⟨u3, g3, rfl, ho3, -, hY⟩; have hX4 := hide (hX3.out.trans hY); obtain ⟨A3, c3, q3⟩ := own_form ho3; subst q3; clear ho3 hY))
    go_returns
    exact ⟨_, [], rfl, rfl, OwnP.nil _ _, hX4.out⟩
  rw [if_neg hfull, if_neg hfull]
  have hkk : ¬ (1024 : Int) < (K : Int) := by omega
  go_enter Tryz.func41, Tryz.ntmps41
  go_wp2_with (first | (go_at_call 88; refine hs.out.mono ?_; rintro ee w1 ⟨v1, rfl, ho1, hX1⟩; have hX2 := hide hX1; have ho2 := hide ho1; have hb2 := hide (hbs.out v1 w1 ho1); obtain ⟨A1, c1, q1⟩ := own_form ho1; subst q1; have hg2 := hide (hgo.out A1 c1 w1 ho1); clear ho1 hX1) | (go_at_call 89; refine hb2.out.mono ?_; rintro ee w2 ⟨rfl, hY⟩; have hX3 := hide (hX2.out.trans hY); have ho12 := hide (own_ext ho2.out hY); clear hY) | (go_at_call 92; refine (hg2.out _).mono ?_; rintro ee w3 ⟨u3, g3, rfl, ho3, hA3, hY⟩; have hX4 := hide (hX3.out.trans hY); have ho13 := hide (own_ext ho12.out hY); have hA4 := hide hA3; have ho4 := hide ho3; obtain ⟨A3, c3, q3⟩ := own_form ho3; subst q3; clear ho3 hY hA3))
  have hzw3 := hX4.out.size
  go_loopg [13, 42] K (fun gh u i wr => ∃ (k : Nat), i = .int .i64 k ∧ k + gh = K ∧ Hid (OwnP wr w3.heap.size u (cwP (S.take k))) ∧ (k = 0 → u = .slice none 0 0) ∧ Hid (Ext w3 wr))
  case atStart => exact ⟨0, by go_num, by omega, OwnP.nil _ _, fun _ => rfl, Ext.refl _⟩
  case round =>
    obtain ⟨k, rfl, hk, hO, hu, hX⟩ := hrel
    by_cases hlt : k < K
    · have hA5 := hA4.out (by omega)
      obtain ⟨gg, gc, q5, -, l5⟩ := own_block2 (own_ext ho4.out hX.out) (by omega)
      simp only [Value.slice.injEq] at q5
      obtain ⟨rfl, -, rfl⟩ := q5
      have z0 := World.ownsRow.cellAt (own_ext ho4.out hX.out) k (by omega)
      rw [show (gvs g3 c (m + 1) K)[k]? = some (gv g3 c (m + 1) k) by simp [gvs, hlt]] at z0
      unfold gv at z0
      subst hA5
      haveI : In gg wr := ⟨l5⟩
      have hKe := hK.out
      have hod := own_ext ho13.out hX.out
      obtain ⟨x, hx⟩ : ∃ x, D[c + k]? = some x := ⟨_, List.getElem?_eq_getElem (by omega)⟩
      obtain ⟨y, hy⟩ : ∃ y, D[c + k + m]? = some y := ⟨_, List.getElem?_eq_getElem (by omega)⟩
      have kx := World.ownsRow.cellAt hod (c + k) (by omega)
      have ky := World.ownsRow.cellAt hod (c + k + m) (by omega)
      rw [show (zc D)[c + k]? = some (.int .i64 x) by simp [zc, hx]] at kx
      rw [show (zc D)[c + k + m]? = some (.int .i64 y) by simp [zc, hy]] at ky
      have hyb := hDin.out y (List.mem_of_getElem? hy)
      obtain ⟨g9, c9, q9, -, l9⟩ := own_block2 hod (by omega)
      simp only [Value.slice.injEq, Option.some.injEq, Addr.mk.injEq] at q9
      obtain ⟨⟨rfl, -, -⟩, -, rfl⟩ := q9
      have hlf := hide (fun w' (hX' : Ext wr w') => life_c g3 (c + k) m (m + 1) x y (by omega) (by omega) w' (Nat.lt_of_lt_of_le l9 hX'.size) (cell_later hX' kx) (cell_later hX' ky))
      have hSk : S[k]? = some (x, y + 1) := by
        rw [hS.out]
        unfold cwS
        rw [List.getElem?_map, List.getElem?_range (by rw [List.length_drop]; omega)]
        simp only [Option.map_some, List.getD_eq_getElem?_getD, List.getElem?_drop]
        rw [show c + (k + (m + 1) - 1) = c + k + m by omega, hx, hy]
        rfl
      have hnx := hide (cwP_next hSk)
      have hPl : (cwP (S.take k)).length = k := by rw [cwP_len, List.length_take]; omega
      obtain ⟨P, hP⟩ : ∃ P, P = cwP (S.take k) := ⟨_, rfl⟩
      rw [← hP] at hO hPl hnx
      obtain ⟨PA, pcap, rfl⟩ := hO.out.form
      have hO1 := hide hO.out
      have hzr := hX.out.size
      have hPl1 : P.length ≤ k := by omega
      replace hPl := hide hPl
      replace hP := hide hP
      clear kx ky hx hy hod hu hKe hSk
      go_wp2_with (first | (go_at_call 93; (with_reducible refine seq_gw (hlf.out _ (Ext.refl _)) ?_); intro g6; have hO6 := hide (hO1.out.ext g6.grown)) | (at_builtin; refine wpl_app tPa rfl (.tmp 46) (.tmp 50) rfl rfl (own_ext hO6.out.1 ((Ext.refl g6.val).alloc _)) rfl (src_sl Tryz.underlying34 (sl_lit g6.val 52 3 [.int .i64 x, .int .i64 (y + 1), .slice none 0 0] rfl) (by intro u hu; simp at hu; rcases hu with rfl | rfl | rfl <;> rfl) (by omega)) (by unfold maxLen; omega) (by omega) (by simp only [World.size_alloc]; have := g6.grown.size; omega) ?_; intro v8 w8 ho8 hg8 hob8; have ho9 := hide ho8; have hg9 := hide hg8; obtain ⟨A8, c8, q8⟩ := own_form ho8; subst q8; clear ho8 hg8 hob8))
      have hF9 : Fr (ob (.slice PA P.length pcap)) g6.val w8 := ((Fr.refl _ _).alloc _).grown hg9.out (fun j hj => .inl (Option.mem_toList.2 hj))
      have hobP := ob_ge hO.out.1
      go_roundg (K - (k + 1))
      case measure => omega
      case rel =>
        refine ⟨k + 1, by go_num, by omega, ?_, fun h => absurd h (by omega), ext_fr (hX.out.trans g6.grown) hF9 (fun y hy => (hobP y hy).1)⟩
        show OwnP _ _ _ _
        rw [hnx.out]
        exact OwnP.app (p := (.slice none 0 0, (x, y + 1), [])) hO6.out hF9 (by simpa [pt1] using ho9.out) ⟨World.ownsRow_nil _ _ _ _, by simp⟩
    · have hkK : k = K := by omega
      have hPe : S.take k = S := List.take_of_length_le (by omega)
      rw [hPe] at hO
      have hPl : (cwP S).length = K := by rw [cwP_len, hSl]
      rcases Nat.eq_zero_or_pos K with h0 | h0
      · have hS0 : S = [] := List.eq_nil_of_length_eq_zero (by omega)
        obtain rfl := hu (by omega)
        replace hS := hide hS
        have hXX := hide (hX4.out.trans hX.out)
        have hff := hide (hfn.out _ hXX.out)
        have hS0' := hide hS0
        clear hPe hPl hkK hS0
        go_wp2_with (go_at_call 94; refine hff.out.mono ?_; rintro ee w9 ⟨rfl, hY⟩; have hX9 := hide (hXX.out.trans hY))
        go_returns
        exact ⟨_, [], rfl, by rw [hS0'.out]; rfl, OwnP.nil _ _, hX9.out⟩
      · have hO1 := hO.out.1
        rw [hPl] at hO1
        obtain ⟨gp, pc, rfl, -, -⟩ := own_block2 hO1 h0
        have hff := hide (fill_c L hm (cwP S) gp K pc (by omega) (fun p hp => by obtain ⟨s, -, rfl⟩ := List.mem_map.1 hp; exact ⟨rfl, rfl⟩) _ w3 wr w3.heap.size hX.out (Nat.le_refl _) hO.out hPl (cwP_dis S) (hC'.out.ext (hX4.out.trans hX.out)))
        clear hPe hPl hkK hO1
        go_wp2_with (go_at_call 94; refine hff.out.mono ?_; rintro ee w9 ⟨rfl, hY, P9, hp9, hd9, hs9, hr9⟩; have hX9 := hide (hX4.out.trans hY); have hp10 := hide hp9; have hs10 := hide hs9; have hr10 := hide hr9; clear hp9 hs9 hr9 hd9)
        go_returns
        exact ⟨_, P9, rfl, cp_fin rfl hs10.out hr10.out, hp10.out.base hzw3, hX9.out⟩
end Go.Proofs.YtljkneajdndgjaaGreat
