/-
  A helper of ours: no claim of its own. Layer 28 (hop): what must be whatever is asked.
-/
import Derived.Test.YtljkneajdndgjaaGreatCouH
import Derived.Test.YtljkneajdndgjaaGreatCouN
import Derived.Test.YtljkneajdndgjaaGreatSnaF
import Derived.Test.YtljkneajdndgjaaGreatWinS
import Derived.Test.YtljkneajdndgjaaGreatHopL
import Derived.Test.YtljkneajdndgjaaGreatEdgQ
set_option linter.unusedVariables false
set_option linter.unusedSimpArgs false
namespace Go.Proofs.YtljkneajdndgjaaGreat
open Go.RowKit
attribute [local go_sem] GW.cell GW.frozen In.eq_true In.le_true In.ne In.ne' In.ne_add In.ne_add' In.lt_add Upto.le_true Upto.le_add Upto.lt_add Oper.semAt_some wide_depth wide_fn
set_option maxHeartbeats 4000000 in
set_option maxRecDepth 100000 in
theorem groupsOf_nil (A : Option Addr) (cap n : Nat) (hn : 1 ≤ n ∧ n ≤ 64) (w : World) : Calls Tryz.prog 92 #[.slice A 0 cap, .int .i64 n] w fun e w' => e = .returned (.slice none 0 0) ∧ Ext w w' := by
  obtain ⟨n1, n2⟩ := hn
  have h1 : ¬ (n : Int) ≤ 0 := by omega
  have h2 : (0 : Int) < (n : Int) := by omega
  go_enter Tryz.func92, Tryz.ntmps92
  go_wp2_with fail
  go_loopg [5, 6] 1 (fun gh u i wr => u = .slice none 0 0 ∧ i = .int .i64 0 ∧ gh = 1 ∧ wr = w)
  case atStart => exact ⟨rfl, rfl, rfl, rfl⟩
  case round =>
    obtain ⟨rfl, rfl, rfl, rfl⟩ := hrel
    go_wp2_with fail
    go_returns
    exact ⟨rfl, Ext.refl _⟩
set_option maxHeartbeats 8000000 in
set_option maxRecDepth 100000 in
theorem fill_nil (L : List Ve) (hm : mayE (eds L) = true) (lv : Value) (w : World) (hL : Ew w [] lv L) : Calls Tryz.prog 94 #[.slice none 0 0, lv] w fun e w' => e = .returned (.tuple #[]) ∧ Ext w w' := by
  have hgr := hide (fun w' (hX : Ext w w') => groups_d L lv w' (hL.ext hX))
  obtain ⟨A, lcap, rfl, hlc, hlm, -⟩ := ew_form hL
  unfold maxLen at hlm
  have hGm : Hid (∀ g ∈ grp (eds L), mayJ g.2 = true ∧ g.1.length ≤ 8) := fun g hg => ⟨(mayE_iff.1 hm).2.2 g hg, grp_r8 hm g hg⟩
  have hLl : L.length ≤ 4096 := by have := mayE_len hm; simpa [eds] using this
  clear hL
  refine calls_marks Tryz.func94 rfl ?_
  simp only [Tryz.ntmps94, List.size_toArray, List.length_cons, List.length_nil, Nat.reduceAdd, Nat.reduceSub, Array.replicate_succ, Array.replicate_zero, List.push_toArray, List.append_toArray, List.nil_append, List.cons_append]
  go_wp2_with (go_at_call 106; refine (hgr.out _ ((Ext.refl w).alloc _)).mono ?_; rintro ee w1 ⟨b, rfl, v1, M, hb, hM, hMe, hX1⟩)
  rw [if_pos hm] at hM
  have p2 : Ob w1 w.heap.size 34 [.slice none 0 0] := (Ob.new w 34 [.slice none 0 0]).ext hX1
  have hXw : Ext w w1 := ((Ext.refl w).alloc _).trans hX1
  have hzw := hXw.size
  have hMx := hide (hMe [] (by simp))
  obtain ⟨b2, hb2⟩ : ∃ b2, b2 = w.heap.size := ⟨_, rfl⟩
  rw [← hb2] at p2 ⊢
  clear hgr hX1 hMe hb2
  rw [← hM] at hGm
  have hML : M.length ≤ 4096 := by have := congrArg List.length hM; simp only [eds, List.length_map] at this; omega
  replace hM := hide hM
  refine wp_rangeQ (X := []) (xs := grp (eds M)) rfl (enters_of Tryz.func146 (by kernel_rfl) rfl) (groups_seqq [] M v1 w1 w1 b hMx.out (by omega) (fun g hg => Nat.le_trans (hGm.out g hg).2 (by omega)) (Ext.refl _) hb) (Ext.refl _) (Nat.le_refl _) (fun x vs W h => h.size) (fun x vs => Hgg.stab x vs)
    (fun k W => Ob W b2 34 [.slice none 0 0] ∧ Ext w W)
    (fun c k W => False)
    (fun k => (Stab.ob _ _ _).and (Stab.of_ext hzw))
    (fun c k => Stab.pure _)
    ⟨p2, hXw⟩
    (fun k x vs a' _ => ∃ r' f', vs = #[r', f'] ∧ a' = { tmps := #[.slice none 0 0, .slice A L.length lcap, .pointer (some ⟨b2, 0, none⟩), undef, r', f', undef, undef, undef, .slice A L.length lcap, .func (.func 146) #[] #[.pointer (some ⟨b, 0, none⟩)], r', f', undef, undef, undef, undef, undef, undef, undef, undef, undef, undef, undef, undef, undef, undef, undef, undef, undef, undef, undef, undef, undef, undef, undef, undef, undef, undef], defers := [] })
    (fun k x vs a' => Stab.pure _) ?assign ?body ?done ?stop
  case assign =>
    rintro LL k x vs W K _ ⟨r', f', rfl, -, -⟩ hK
    gi_wp2
    exact hK _ _ (Ext.refl _) ⟨_, _, rfl, rfl⟩
  case stop =>
    rintro D c k W hD hk h
    exact h.elim
  case done =>
    rintro D W hD2 ⟨-, hX⟩ hK
    go_wp2_with fail
    refine ret_mark hK (v := .tuple #[]) ?_ ⟨rfl, put_ext hX (by omega) _⟩
    simp [results, Tryz.f94, go_sem]
  case body =>
    rintro LL k ⟨q, J⟩ vs a' Wo hL2 hrec hx ⟨hb2, hX⟩ ⟨rv, fv, e', hr', hf'⟩ ⟨rv', fv', rfl, rfl⟩
    have k2 := hb2.cell 0 rfl
    have m2 := hb2.lt
    haveI : In b2 Wo := ⟨m2⟩
    have hb2' := hide hb2
    have hX' := hide hX
    clear hb2 hX hx hrec
    gi_wp2
    gi_loopg [15] 1 (fun gh i wr => i = .int .i64 0 ∧ gh = 1 ∧ wr = Wo)
    case atStart => exact ⟨rfl, rfl, rfl⟩
    case round =>
      obtain ⟨rfl, rfl, rfl⟩ := hrel
      gi_wp2
      exact ⟨keeps_ext (Ext.refl _), BelX.refl _ _ _, ⟨hb2'.out, hX'.out⟩, Qk.of_ext (Ext.refl _)⟩
end Go.Proofs.YtljkneajdndgjaaGreat
set_option linter.unusedVariables false
set_option linter.unusedSimpArgs false
namespace Go.Proofs.YtljkneajdndgjaaGreat
open Go.RowKit
attribute [-go_sem] sliced
attribute [local go_sem] sliced_eq
attribute [local go_sem] GW.cell GW.frozen In.eq_true In.le_true In.ne In.ne' In.ne_add In.ne_add' In.lt_add Upto.le_true Upto.le_add Upto.lt_add
/-- Each n starts from the c-th on, wherever they lie. -/
theorem groupsOf_any (D : List Int) (B : Nat) (A : Option Addr) (cap : Nat) (w1 : World) (h : OwnZ w1 B (.slice A D.length cap) D) (hDl : D.length ≤ 4194304) (c n : Nat) (hc : c ≤ D.length) (hn : 1 ≤ n ∧ n ≤ 64) (w : World) : Calls Tryz.prog 92 #[.slice (cutA A c cap 1) (D.length - c) (cap - c), .int .i64 (n : Int)] w fun e w' => ∃ u g, e = .returned u ∧ w'.ownsRow w.heap.size 78 1 u (D.length - c + 1 - n) (gvs g c n (D.length - c + 1 - n)) ∧ (0 < D.length - c + 1 - n → A = some ⟨g, 0, none⟩) ∧ Ext w w' := by
  rcases Nat.eq_zero_or_pos (D.length - c) with h0 | h0
  · have hk : D.length - c + 1 - n = 0 := by omega
    rw [hk, h0]
    refine (groupsOf_nil _ _ n hn w).mono ?_
    rintro e w' ⟨rfl, hX⟩
    exact ⟨_, 0, rfl, World.ownsRow_nil _ _ _ _, fun k => absurd k (by omega), hX⟩
  · rcases h.2 with ⟨e, k0⟩ | ⟨g, cap', cur, e, hb, hg, hnc, hcm, hcs, ht⟩
    · omega
    · simp only [Value.slice.injEq] at e
      obtain ⟨rfl, -, rfl⟩ := e
      have e : cutA (some ⟨g, 0, none⟩) c cap 1 = some ⟨g, c, none⟩ := by
        unfold cutA
        by_cases k : cap = c
        · omega
        · rw [if_neg k]; simp [Addr.add]; omega
      rw [e]
      refine (groupsOf_c g c (D.length - c) (cap - c) n hn (by omega) (by omega) (by omega) w).mono ?_
      rintro e w' ⟨u, rfl, hO, hX⟩
      exact ⟨u, g, rfl, hO, fun _ => rfl, hX⟩
/-- So many windows, with no rows yet. -/
def cwP (S : List (Int × Int)) : List Vp := S.map fun s => (.slice none 0 0, s, [])
theorem cwP_len (S : List (Int × Int)) : (cwP S).length = S.length := by simp [cwP]
theorem cwP_dis : ∀ S : List (Int × Int), Dis (cwP S) := fun S => by
  unfold Dis
  rw [List.pairwise_iff_forall_sublist]
  intro a b h
  have ha : a ∈ cwP S := h.subset (by simp)
  obtain ⟨s, -, rfl⟩ := List.mem_map.1 ha
  intro x hx
  cases hx
theorem cwP_next {S : List (Int × Int)} {k : Nat} {s : Int × Int} (h : S[k]? = some s) : cwP (S.take (k + 1)) = cwP (S.take k) ++ [(.slice none 0 0, s, [])] := by
  unfold cwP
  rw [List.take_add_one, h, Option.toList_some, List.map_append]
  rfl
theorem cp_fin {P P' : List Vp} {S : List (Int × Int)} {G : List Gp} (hP : P = cwP S) (h1 : P'.map (fun p => p.2.1) = P.map fun p => p.2.1) (h2 : ∀ p ∈ P', cps p.2.2 = cfR G p.2.1) : pts P' = S.map fun s => (s, cfR G s) := by
  have e : P'.map (fun p => p.2.1) = S := by rw [h1, hP]; simp [cwP, Function.comp_def]
  rw [← e, List.map_map]
  exact List.map_congr_left fun p hp => by rw [h2 p hp]; rfl
set_option maxHeartbeats 8000000 in
set_option maxRecDepth 100000 in
theorem cpParts_c (L : List Ve) (n t : Int) (v : Value) (w : World) (hC : Ew w [] v L) : Calls Tryz.prog 41 #[v, .int .i64 n, .int .i64 t] w fun e w' => ∃ v' P, e = .returned (.tuple #[v', .int .i64 (cpE (eds L) n t)]) ∧ pts P = cpL (eds L) n t ∧ OwnP w' w.heap.size v' P ∧ Ext w w' := by
  have hs := hide (startsFor_c L n t v w hC)
  have hC' := hide hC
  obtain ⟨A, cap, rfl, hlc, hlm, -⟩ := ew_form hC
  clear hC
  obtain ⟨E, hE⟩ : ∃ E, E = ssE (eds L) n t := ⟨_, rfl⟩
  obtain ⟨D, hD⟩ : ∃ D, D = ssL (eds L) n t := ⟨_, rfl⟩
  rw [← hE, ← hD] at hs
  by_cases hE0 : E = 0
  case neg =>
    have e1 : cpE (eds L) n t = E := by unfold cpE; rw [← hE, if_neg hE0]
    have e2 : cpL (eds L) n t = [] := by unfold cpL; rw [e1, if_neg hE0]
    rw [e1, e2]
    have hb : (E != 0) = true := by simpa using hE0
    replace hE := hide hE
    replace hD := hide hD
    clear e1 e2
    go_enter Tryz.func41, Tryz.ntmps41
    go_wp2_with (go_at_call 88; refine hs.out.mono ?_; rintro ee w1 ⟨v1, rfl, ho1, hX1⟩; have hX2 := hide hX1; obtain ⟨A1, c1, q1⟩ := own_form ho1; subst q1; clear ho1 hX1)
    go_returns
    exact ⟨_, [], rfl, rfl, OwnP.nil _ _, hX2.out⟩
  subst hE0
  obtain ⟨⟨n1, n2⟩, ⟨hm, -⟩, t1, t2⟩ := ssE_ok hE.symm
  obtain ⟨m, rfl⟩ : ∃ m : Nat, n = ((m + 1 : Nat) : Int) := ⟨n.toNat - 1, by omega⟩
  have hDe : D = csT (eds L) := by rw [hD]; unfold ssL; rw [← hE, if_pos rfl]
  have hDl : D.length ≤ 4194304 := by rw [hDe]; exact csT_len hm
  have hDa : Hid (D.Pairwise (· < ·)) := by rw [hDe]; exact csT_asc _
  have hDin : Hid (∀ x ∈ D, 0 ≤ x ∧ x < 1125899906842624) := by rw [hDe]; exact fun x hx => csT_in hm hx
  have hcl : sbN D t ≤ D.length := List.countP_le_length
  obtain ⟨c, hc⟩ : ∃ c, c = sbN D t := ⟨_, rfl⟩
  rw [← hc] at hcl
  obtain ⟨K, hK⟩ : ∃ K, K = D.length - c + 1 - (m + 1) := ⟨_, rfl⟩
  obtain ⟨S, hS⟩ : ∃ S, S = cwS (D.drop c) (m + 1) := ⟨_, rfl⟩
  have hSl : S.length = K := by rw [hS, cwS_len, List.length_drop, hK]
  have eD : cpD (eds L) t = D.drop c := by unfold cpD; rw [← hDe, ← hc]
  have eE : cpE (eds L) ((m + 1 : Nat) : Int) t = if 1024 < K then 7 else 0 := by unfold cpE; rw [← hE, if_pos rfl, eD, List.length_drop, hK]; simp
  have eL : cpL (eds L) ((m + 1 : Nat) : Int) t = if 1024 < K then [] else S.map fun s => (s, cfR (grp (eds L)) s) := by
    unfold cpL
    rw [eE]
    by_cases k : 1024 < K
    · rw [if_pos k, if_pos k]; rfl
    · rw [if_neg k, if_neg k, if_pos rfl]; unfold cpT; rw [eD, hS]; simp
  rw [eE, eL]
  have hbs := hide (fun v w' (h : OwnZ w' w.heap.size v D) => ibin_c w.heap.size D t v w' h (by omega) (hDa.out.imp fun {a b} h => by omega))
  rw [← hc] at hbs
  have hgo := hide (fun A cap w1 (h : OwnZ w1 w.heap.size (.slice A D.length cap) D) w' => groupsOf_any D w.heap.size A cap w1 h hDl c (m + 1) hcl ⟨by omega, by omega⟩ w')
  rw [← hK] at hgo
  have hfn := hide (fun w' (hX : Ext w w') => fill_nil L hm _ w' (hC'.out.ext hX))
  have hcl1 : (c : Int) ≤ (D.length : Int) := by omega
  replace hE := hide hE
  replace hD := hide hD
  replace hDe := hide hDe
  replace hc := hide hc
  replace hK := hide hK
  replace hS := hide hS
  clear eD eE eL
  by_cases hfull : 1024 < K
  · rw [if_pos hfull, if_pos hfull]
    have hkk : (1024 : Int) < (K : Int) := by omega
    go_enter Tryz.func41, Tryz.ntmps41
    go_wp2_with (first | (go_at_call 88; refine hs.out.mono ?_; rintro ee w1 ⟨v1, rfl, ho1, hX1⟩; have hX2 := hide hX1; have hb2 := hide (hbs.out v1 w1 ho1); obtain ⟨A1, c1, q1⟩ := own_form ho1; subst q1; have hg2 := hide (hgo.out A1 c1 w1 ho1); clear ho1 hX1) | (go_at_call 89; refine hb2.out.mono ?_; rintro ee w2 ⟨rfl, hY⟩; have hX3 := hide (hX2.out.trans hY); clear hY) | (go_at_call 92; refine (hg2.out _).mono ?_; rintro ee w3 ⟨u3, g3, rfl, ho3, -, hY⟩; have hX4 := hide (hX3.out.trans hY); obtain ⟨A3, c3, q3⟩ := own_form ho3; subst q3; clear ho3 hY))
    go_returns
    exact ⟨_, [], rfl, rfl, OwnP.nil _ _, hX4.out⟩
  rw [if_neg hfull, if_neg hfull]
  have hkk : ¬ (1024 : Int) < (K : Int) := by omega
  go_enter Tryz.func41, Tryz.ntmps41
  go_wp2_with (first | (go_at_call 88; refine hs.out.mono ?_; rintro ee w1 ⟨v1, rfl, ho1, hX1⟩; have hX2 := hide hX1; have ho2 := hide ho1; have hb2 := hide (hbs.out v1 w1 ho1); obtain ⟨A1, c1, q1⟩ := own_form ho1; subst q1; have hg2 := hide (hgo.out A1 c1 w1 ho1); clear ho1 hX1) | (go_at_call 89; refine hb2.out.mono ?_; rintro ee w2 ⟨rfl, hY⟩; have hX3 := hide (hX2.out.trans hY); have ho12 := hide (own_ext ho2.out hY); clear hY) | (go_at_call 92; refine (hg2.out _).mono ?_; rintro ee w3 ⟨u3, g3, rfl, ho3, hA3, hY⟩; have hX4 := hide (hX3.out.trans hY); have ho13 := hide (own_ext ho12.out hY); have hA4 := hide hA3; have ho4 := hide ho3; obtain ⟨A3, c3, q3⟩ := own_form ho3; subst q3; clear ho3 hY hA3))
  have hzw3 := hX4.out.size
  go_loopg [13, 42] K (fun gh u i wr => ∃ (k : Nat), i = .int .i64 k ∧ k + gh = K ∧ Hid (OwnP wr w3.heap.size u (cwP (S.take k))) ∧ (k = 0 → u = .slice none 0 0) ∧ Hid (Ext w3 wr))
  case atStart => exact ⟨0, by go_num, by omega, OwnP.nil _ _, fun _ => rfl, Ext.refl _⟩
  case round =>
    obtain ⟨k, rfl, hk, hO, hu, hX⟩ := hrel
    by_cases hlt : k < K
    · have hA5 := hA4.out (by omega)
      obtain ⟨gg, gc, q5, -, l5⟩ := own_block2 (own_ext ho4.out hX.out) (by omega)
      simp only [Value.slice.injEq] at q5
      obtain ⟨rfl, -, rfl⟩ := q5
      have z0 := World.ownsRow.cellAt (own_ext ho4.out hX.out) k (by omega)
      rw [show (gvs g3 c (m + 1) K)[k]? = some (gv g3 c (m + 1) k) by simp [gvs, hlt]] at z0
      unfold gv at z0
      subst hA5
      haveI : In gg wr := ⟨l5⟩
      have hKe := hK.out
      have hod := own_ext ho13.out hX.out
      obtain ⟨x, hx⟩ : ∃ x, D[c + k]? = some x := ⟨_, List.getElem?_eq_getElem (by omega)⟩
      obtain ⟨y, hy⟩ : ∃ y, D[c + k + m]? = some y := ⟨_, List.getElem?_eq_getElem (by omega)⟩
      have kx := World.ownsRow.cellAt hod (c + k) (by omega)
      have ky := World.ownsRow.cellAt hod (c + k + m) (by omega)
      rw [show (zc D)[c + k]? = some (.int .i64 x) by simp [zc, hx]] at kx
      rw [show (zc D)[c + k + m]? = some (.int .i64 y) by simp [zc, hy]] at ky
      have hyb := hDin.out y (List.mem_of_getElem? hy)
      obtain ⟨g9, c9, q9, -, l9⟩ := own_block2 hod (by omega)
      simp only [Value.slice.injEq, Option.some.injEq, Addr.mk.injEq] at q9
      obtain ⟨⟨rfl, -, -⟩, -, rfl⟩ := q9
      have hlf := hide (fun w' (hX' : Ext wr w') => life_c g3 (c + k) m (m + 1) x y (by omega) (by omega) w' (Nat.lt_of_lt_of_le l9 hX'.size) (cell_later hX' kx) (cell_later hX' ky))
      have hSk : S[k]? = some (x, y + 1) := by
        rw [hS.out]
        unfold cwS
        rw [List.getElem?_map, List.getElem?_range (by rw [List.length_drop]; omega)]
        simp only [Option.map_some, List.getD_eq_getElem?_getD, List.getElem?_drop]
        rw [show c + (k + (m + 1) - 1) = c + k + m by omega, hx, hy]
        rfl
      have hnx := hide (cwP_next hSk)
      have hPl : (cwP (S.take k)).length = k := by rw [cwP_len, List.length_take]; omega
      obtain ⟨P, hP⟩ : ∃ P, P = cwP (S.take k) := ⟨_, rfl⟩
      rw [← hP] at hO hPl hnx
      obtain ⟨PA, pcap, rfl⟩ := hO.out.form
      have hO1 := hide hO.out
      have hzr := hX.out.size
      have hPl1 : P.length ≤ k := by omega
      replace hPl := hide hPl
      replace hP := hide hP
      clear kx ky hx hy hod hu hKe hSk
      go_wp2_with (first | (go_at_call 93; (with_reducible refine seq_gw (hlf.out _ (Ext.refl _)) ?_); intro g6; have hO6 := hide (hO1.out.ext g6.grown)) | (at_builtin; refine wpl_app tPa rfl (.tmp 46) (.tmp 50) rfl rfl (own_ext hO6.out.1 ((Ext.refl g6.val).alloc _)) rfl (src_sl Tryz.underlying34 (sl_lit g6.val 52 3 [.int .i64 x, .int .i64 (y + 1), .slice none 0 0] rfl) (by intro u hu; simp at hu; rcases hu with rfl | rfl | rfl <;> rfl) (by omega)) (by unfold maxLen; omega) (by omega) (by simp only [World.size_alloc]; have := g6.grown.size; omega) ?_; intro v8 w8 ho8 hg8 hob8; have ho9 := hide ho8; have hg9 := hide hg8; obtain ⟨A8, c8, q8⟩ := own_form ho8; subst q8; clear ho8 hg8 hob8))
      have hF9 : Fr (ob (.slice PA P.length pcap)) g6.val w8 := ((Fr.refl _ _).alloc _).grown hg9.out (fun j hj => .inl (Option.mem_toList.2 hj))
      have hobP := ob_ge hO.out.1
      go_roundg (K - (k + 1))
      case measure => omega
      case rel =>
        refine ⟨k + 1, by go_num, by omega, ?_, fun h => absurd h (by omega), ext_fr (hX.out.trans g6.grown) hF9 (fun y hy => (hobP y hy).1)⟩
        show OwnP _ _ _ _
        rw [hnx.out]
        exact OwnP.app (p := (.slice none 0 0, (x, y + 1), [])) hO6.out hF9 (by simpa [pt1] using ho9.out) ⟨World.ownsRow_nil _ _ _ _, by simp⟩
    · have hkK : k = K := by omega
      have hPe : S.take k = S := List.take_of_length_le (by omega)
      rw [hPe] at hO
      have hPl : (cwP S).length = K := by rw [cwP_len, hSl]
      rcases Nat.eq_zero_or_pos K with h0 | h0
      · have hS0 : S = [] := List.eq_nil_of_length_eq_zero (by omega)
        obtain rfl := hu (by omega)
        replace hS := hide hS
        have hXX := hide (hX4.out.trans hX.out)
        have hff := hide (hfn.out _ hXX.out)
        have hS0' := hide hS0
        clear hPe hPl hkK hS0
        go_wp2_with (go_at_call 94; refine hff.out.mono ?_; rintro ee w9 ⟨rfl, hY⟩; have hX9 := hide (hXX.out.trans hY))
        go_returns
        exact ⟨_, [], rfl, by rw [hS0'.out]; rfl, OwnP.nil _ _, hX9.out⟩
      · have hO1 := hO.out.1
        rw [hPl] at hO1
        obtain ⟨gp, pc, rfl, -, -⟩ := own_block2 hO1 h0
        have hff := hide (fill_c L hm (cwP S) gp K pc (by omega) (fun p hp => by obtain ⟨s, -, rfl⟩ := List.mem_map.1 hp; exact ⟨rfl, rfl⟩) _ w3 wr w3.heap.size hX.out (Nat.le_refl _) hO.out hPl (cwP_dis S) (hC'.out.ext (hX4.out.trans hX.out)))
        clear hPe hPl hkK hO1
        go_wp2_with (go_at_call 94; refine hff.out.mono ?_; rintro ee w9 ⟨rfl, hY, P9, hp9, hd9, hs9, hr9⟩; have hX9 := hide (hX4.out.trans hY); have hp10 := hide hp9; have hs10 := hide hs9; have hr10 := hide hr9; clear hp9 hs9 hr9 hd9)
        go_returns
        exact ⟨_, P9, rfl, cp_fin rfl hs10.out hr10.out, hp10.out.base hzw3, hX9.out⟩
end Go.Proofs.YtljkneajdndgjaaGreat
set_option linter.unusedVariables false
set_option linter.unusedSimpArgs false
namespace Go.Proofs.YtljkneajdndgjaaGreat
open Go.RowKit
attribute [local go_sem] GW.cell GW.frozen In.eq_true In.le_true In.ne In.ne' In.ne_add In.ne_add' In.lt_add Upto.le_true Upto.le_add Upto.lt_add
abbrev wV (k s h : Int) : Value := .agg #[.int .i64 k, .int .i64 s, .int .i64 h]
abbrev wL (k s h : Int) : List Value := [.int .i64 k, .int .i64 s, .int .i64 h]
theorem wup0_c (b : Nat) (k s h : Int) (w : World) (hb : Ob w b 24 (wL k s h)) : Calls Tryz.prog 38 #[.int .i64 0, .int .i64 0, .pointer (some ⟨b, 0, none⟩)] w fun e w' => e = .returned (.bool (decide (s = 0) && decide (h = 0))) ∧ Ext w w' := by
  have e : (decide (s = 0) && decide (h = 0)) = decide (0 ≤ s ∧ s ≤ 0 ∧ 0 ≤ h ∧ h ≤ 0) := by
    rw [Bool.eq_iff_iff]
    simp [hlen]
    omega
  rw [e]
  have c1 := hb.cell 1 rfl
  have c2 := hb.cell 2 rfl
  have hl := hb.lt
  haveI : In b w := ⟨hl⟩
  have m1 : min (1 : Int) 0 = 0 := by decide
  have m2 : min (1 : Int) 0 = 0 := by decide
  clear e
  by_cases a1 : 0 ≤ s
  case neg =>
    go_enter Tryz.func38, Tryz.ntmps38
    go_wp2_with fail
    go_returns
    exact ⟨by simp [a1] <;> omega, Ext.refl _⟩
  by_cases a2 : s ≤ 0
  case neg =>
    go_enter Tryz.func38, Tryz.ntmps38
    go_wp2_with fail
    go_returns
    exact ⟨by simp [a1, a2] <;> omega, Ext.refl _⟩
  by_cases a3 : 0 ≤ h
  case neg =>
    go_enter Tryz.func38, Tryz.ntmps38
    go_wp2_with fail
    go_returns
    exact ⟨by simp [a1, a2, a3] <;> omega, Ext.refl _⟩
  by_cases a4 : h ≤ 0
  all_goals
    go_enter Tryz.func38, Tryz.ntmps38
    go_wp2_with fail
    go_returns
    exact ⟨by simp [a1, a2, a3, a4] <;> omega, Ext.refl _⟩
theorem wup2_c (b : Nat) (k s h : Int) (w : World) (hb : Ob w b 24 (wL k s h)) : Calls Tryz.prog 38 #[.int .i64 1099511627776, .int .i64 1099511627776, .pointer (some ⟨b, 0, none⟩)] w fun e w' => e = .returned (.bool (hlen s && hlen h)) ∧ Ext w w' := by
  have e : (hlen s && hlen h) = decide (1 ≤ s ∧ s ≤ 1099511627776 ∧ 1 ≤ h ∧ h ≤ 1099511627776) := by
    rw [Bool.eq_iff_iff]
    simp [hlen]
    omega
  rw [e]
  have c1 := hb.cell 1 rfl
  have c2 := hb.cell 2 rfl
  have hl := hb.lt
  haveI : In b w := ⟨hl⟩
  have m1 : min (1 : Int) 1099511627776 = 1 := by decide
  have m2 : min (1 : Int) 1099511627776 = 1 := by decide
  clear e
  by_cases a1 : 1 ≤ s
  case neg =>
    go_enter Tryz.func38, Tryz.ntmps38
    go_wp2_with fail
    go_returns
    exact ⟨by simp [a1] <;> omega, Ext.refl _⟩
  by_cases a2 : s ≤ 1099511627776
  case neg =>
    go_enter Tryz.func38, Tryz.ntmps38
    go_wp2_with fail
    go_returns
    exact ⟨by simp [a1, a2] <;> omega, Ext.refl _⟩
  by_cases a3 : 1 ≤ h
  case neg =>
    go_enter Tryz.func38, Tryz.ntmps38
    go_wp2_with fail
    go_returns
    exact ⟨by simp [a1, a2, a3] <;> omega, Ext.refl _⟩
  by_cases a4 : h ≤ 1099511627776
  all_goals
    go_enter Tryz.func38, Tryz.ntmps38
    go_wp2_with fail
    go_returns
    exact ⟨by simp [a1, a2, a3, a4] <;> omega, Ext.refl _⟩
theorem wup3_c (b : Nat) (k s h : Int) (w : World) (hb : Ob w b 24 (wL k s h)) : Calls Tryz.prog 38 #[.int .i64 64, .int .i64 0, .pointer (some ⟨b, 0, none⟩)] w fun e w' => e = .returned (.bool ((decide (1 ≤ s) && decide (s ≤ 64)) && decide (h = 0))) ∧ Ext w w' := by
  have e : ((decide (1 ≤ s) && decide (s ≤ 64)) && decide (h = 0)) = decide (1 ≤ s ∧ s ≤ 64 ∧ 0 ≤ h ∧ h ≤ 0) := by
    rw [Bool.eq_iff_iff]
    simp [hlen]
    omega
  rw [e]
  have c1 := hb.cell 1 rfl
  have c2 := hb.cell 2 rfl
  have hl := hb.lt
  haveI : In b w := ⟨hl⟩
  have m1 : min (1 : Int) 64 = 1 := by decide
  have m2 : min (1 : Int) 0 = 0 := by decide
  clear e
  by_cases a1 : 1 ≤ s
  case neg =>
    go_enter Tryz.func38, Tryz.ntmps38
    go_wp2_with fail
    go_returns
    exact ⟨by simp [a1] <;> omega, Ext.refl _⟩
  by_cases a2 : s ≤ 64
  case neg =>
    go_enter Tryz.func38, Tryz.ntmps38
    go_wp2_with fail
    go_returns
    exact ⟨by simp [a1, a2] <;> omega, Ext.refl _⟩
  by_cases a3 : 0 ≤ h
  case neg =>
    go_enter Tryz.func38, Tryz.ntmps38
    go_wp2_with fail
    go_returns
    exact ⟨by simp [a1, a2, a3] <;> omega, Ext.refl _⟩
  by_cases a4 : h ≤ 0
  all_goals
    go_enter Tryz.func38, Tryz.ntmps38
    go_wp2_with fail
    go_returns
    exact ⟨by simp [a1, a2, a3, a4] <;> omega, Ext.refl _⟩
theorem wcheck_c (k s h : Int) (w : World) : Calls Tryz.prog 14 #[wV k s h] w fun e w' => e = .returned (.int .i64 (if wmay k s h = true then 0 else 2)) ∧ Ext w w' := by
  obtain ⟨B, hB⟩ : ∃ B, B = wmay k s h := ⟨_, rfl⟩
  rw [← hB]
  have hb := hide (Ob.new w 24 (wL k s h))
  have c0 := hb.out.cell 0 rfl
  have hl := hb.out.lt
  haveI : In w.heap.size (w.alloc (.cells #[.int .i64 k, .int .i64 s, .int .i64 h] 24)) := ⟨hl⟩
  by_cases k1 : k = 1
  · subst k1
    have hu := hide (wup0_c w.heap.size 1 s h _ hb.out)
    rw [show (decide (s = 0) && decide (h = 0)) = B by rw [hB]; simp [wmay]] at hu
    clear hB
    cases B
    all_goals
      go_enter Tryz.func14, Tryz.ntmps14
      go_wp2_with (go_at_call 38; (with_reducible refine seq_gw hu.out ?_); intro g)
      go_returns
      exact ⟨by first | rfl | simp, ((Ext.refl w).alloc _).trans g.grown⟩
  have k1b : (k == 1) = false := by simpa using k1
  by_cases k2 : k = 2
  · subst k2
    have hu := hide (wup2_c w.heap.size 2 s h _ hb.out)
    rw [show (hlen s && hlen h) = B by rw [hB]; simp [wmay]] at hu
    clear hB k1
    cases B
    all_goals
      go_enter Tryz.func14, Tryz.ntmps14
      go_wp2_with (go_at_call 38; (with_reducible refine seq_gw hu.out ?_); intro g)
      go_returns
      exact ⟨by first | rfl | simp, ((Ext.refl w).alloc _).trans g.grown⟩
  have k2b : (k == 2) = false := by simpa using k2
  by_cases k3 : k = 3
  · subst k3
    have hu := hide (wup3_c w.heap.size 3 s h _ hb.out)
    rw [show ((decide (1 ≤ s) && decide (s ≤ 64)) && decide (h = 0)) = B by rw [hB]; simp [wmay]] at hu
    clear hB k1 k2
    cases B
    all_goals
      go_enter Tryz.func14, Tryz.ntmps14
      go_wp2_with (go_at_call 38; (with_reducible refine seq_gw hu.out ?_); intro g)
      go_returns
      exact ⟨by first | rfl | simp, ((Ext.refl w).alloc _).trans g.grown⟩
  have k3b : (k == 3) = false := by simpa using k3
  have hB0 : B = false := by rw [hB]; unfold wmay; rw [if_neg k1, if_neg k2, if_neg k3]
  subst hB0
  clear hB k1 k2 k3
  go_enter Tryz.func14, Tryz.ntmps14
  go_wp2_with fail
  go_returns
  exact ⟨by first | rfl | simp, (Ext.refl w).alloc _⟩
theorem wwrong_c (k s h : Int) (L : List Ve) (t : Int) (v : Value) (w : World) (hC : Ew w [] v L) : Calls Tryz.prog 32 #[wV k s h, v, .int .i64 t] w fun e w' => e = .returned (.int .i64 (wrE k s h (eds L) t)) ∧ Ext w w' := by
  have hk := hide (fun w' => wcheck_c k s h w')
  have h1 := hide (fun w' (hX : Ext w w') => edgeMay_c L v w' (hC.ext hX))
  have h2 := hide (fun w' (hX : Ext w w') => edgeTable_c L v w' (hC.ext hX))
  obtain ⟨A, cap, rfl, hlc, hlm, -⟩ := ew_form hC
  clear hC
  cases hm : wmay k s h
  · have e1 : wrE k s h (eds L) t = 2 := by unfold wrE; rw [hm]; simp
    rw [e1]
    rw [hm] at hk
    rw [if_neg (by decide)] at hk
    clear hm e1
    go_enter Tryz.func32, Tryz.ntmps32
    go_wp2_with (first | (go_at_call 14; (with_reducible refine seq_gw (hk.out _) ?_); intro g1))
    go_returns
    exact ⟨by first | rfl | simp, ((Ext.refl w).alloc _).trans g1.grown⟩
  cases ha : mayE (eds L)
  · have e1 : wrE k s h (eds L) t = 2 := by unfold wrE; rw [ha]; simp
    rw [e1]
    rw [hm, if_pos rfl] at hk
    rw [ha] at h1
    clear hm ha e1
    go_enter Tryz.func32, Tryz.ntmps32
    go_wp2_with (first | (go_at_call 14; (with_reducible refine seq_gw (hk.out _) ?_); intro g1) | (go_at_call 45; (with_reducible refine seq_gw (h1.out _ (((Ext.refl w).alloc _).trans g1.grown)) ?_); intro g2))
    go_returns
    exact ⟨by first | rfl | simp, (((Ext.refl w).alloc _).trans g1.grown).trans g2.grown⟩
  cases hb : tabE (eds L)
  · have e1 : wrE k s h (eds L) t = 20 := by unfold wrE; rw [if_pos ⟨hm, ha⟩, hb]; rfl
    rw [e1]
    rw [hm, if_pos rfl] at hk
    rw [ha] at h1
    rw [hb] at h2
    clear hm ha hb e1
    go_enter Tryz.func32, Tryz.ntmps32
    go_wp2_with (first | (go_at_call 14; (with_reducible refine seq_gw (hk.out _) ?_); intro g1) | (go_at_call 45; (with_reducible refine seq_gw (h1.out _ (((Ext.refl w).alloc _).trans g1.grown)) ?_); intro g2) | (go_at_call 54; (with_reducible refine seq_gw (h2.out _ ((((Ext.refl w).alloc _).trans g1.grown).trans g2.grown)) ?_); intro g3))
    go_returns
    exact ⟨by first | rfl | simp, ((((Ext.refl w).alloc _).trans g1.grown).trans g2.grown).trans g3.grown⟩
  have e1 : wrE k s h (eds L) t = if stick t = true then 0 else 13 := by unfold wrE; rw [if_pos ⟨hm, ha⟩, if_pos hb]
  rw [e1]
  rw [hm, if_pos rfl] at hk
  rw [ha] at h1
  rw [hb] at h2
  clear hm ha hb e1
  by_cases t1 : t < 0
  · have e2 : (if stick t = true then (0 : Int) else 13) = 13 := if_neg (fun c => by have := (stick_iff.1 c).1; omega)
    rw [e2]
    clear e2
    go_enter Tryz.func32, Tryz.ntmps32
    go_wp2_with (first | (go_at_call 14; (with_reducible refine seq_gw (hk.out _) ?_); intro g1) | (go_at_call 45; (with_reducible refine seq_gw (h1.out _ (((Ext.refl w).alloc _).trans g1.grown)) ?_); intro g2) | (go_at_call 54; (with_reducible refine seq_gw (h2.out _ ((((Ext.refl w).alloc _).trans g1.grown).trans g2.grown)) ?_); intro g3))
    go_returns
    exact ⟨by first | rfl | simp, ((((Ext.refl w).alloc _).trans g1.grown).trans g2.grown).trans g3.grown⟩
  by_cases t2 : 1125899906842624 < t
  · have e2 : (if stick t = true then (0 : Int) else 13) = 13 := if_neg (fun c => by have := (stick_iff.1 c).2; omega)
    rw [e2]
    clear e2
    go_enter Tryz.func32, Tryz.ntmps32
    go_wp2_with (first | (go_at_call 14; (with_reducible refine seq_gw (hk.out _) ?_); intro g1) | (go_at_call 45; (with_reducible refine seq_gw (h1.out _ (((Ext.refl w).alloc _).trans g1.grown)) ?_); intro g2) | (go_at_call 54; (with_reducible refine seq_gw (h2.out _ ((((Ext.refl w).alloc _).trans g1.grown).trans g2.grown)) ?_); intro g3))
    go_returns
    exact ⟨by first | rfl | simp, ((((Ext.refl w).alloc _).trans g1.grown).trans g2.grown).trans g3.grown⟩
  have e2 : (if stick t = true then (0 : Int) else 13) = 0 := if_pos (stick_iff.2 ⟨by omega, by omega⟩)
  rw [e2]
  clear e2
  go_enter Tryz.func32, Tryz.ntmps32
  go_wp2_with (first | (go_at_call 14; (with_reducible refine seq_gw (hk.out _) ?_); intro g1) | (go_at_call 45; (with_reducible refine seq_gw (h1.out _ (((Ext.refl w).alloc _).trans g1.grown)) ?_); intro g2) | (go_at_call 54; (with_reducible refine seq_gw (h2.out _ ((((Ext.refl w).alloc _).trans g1.grown).trans g2.grown)) ?_); intro g3))
  go_returns
  exact ⟨by first | rfl | simp, ((((Ext.refl w).alloc _).trans g1.grown).trans g2.grown).trans g3.grown⟩
theorem frV_next {l : List Ed} {k : Nat} {e : Ed} (h : l[k]? = some e) (t : Int) : frV (l.take (k + 1)) t = if 0 < e.2.2 then max (frV (l.take k) t) (e.2.1 + 1) else frV (l.take k) t := by
  unfold frV
  rw [List.take_add_one, h, Option.toList_some, List.foldl_append]
  rfl
set_option maxHeartbeats 4000000 in
theorem wfront_c (L : List Ve) (hm : mayE (eds L) = true) (t : Int) (v : Value) (w : World) (hC : Ew w [] v L) : Calls Tryz.prog 40 #[v, .int .i64 t] w fun e w' => e = .returned (.int .i64 (frV (eds L) t)) ∧ Ext w w' := by
  have hC' := hide hC
  have hLl : L.length ≤ 4096 := by have := mayE_len hm; simpa [eds] using this
  have hin : Hid (∀ e ∈ eds L, -1 ≤ e.2.1 ∧ e.2.1 < 1125899906842624) := fun e he => mayJ_at (mayJ_jmps hm e.1) e.2 (by unfold jmps; exact List.mem_map.2 ⟨e, List.mem_filter.2 ⟨he, by simp⟩, rfl⟩)
  obtain ⟨A, cap, rfl, hlc, hlm, -⟩ := ew_form hC
  unfold maxLen at hlm
  clear hC
  go_enter Tryz.func40, Tryz.ntmps40
  go_wp2_with fail
  go_loopg [1, 9] L.length (fun gh u i wr => ∃ (k : Nat) (z : Int), i = .int .i64 k ∧ k + gh = L.length ∧ u = .int .i64 z ∧ Hid (z = frV ((eds L).take k) t) ∧ Hid (Ext w wr))
  case atStart => exact ⟨0, t, by go_num, by omega, rfl, rfl, Ext.refl _⟩
  case round =>
    obtain ⟨k, z, rfl, hk, rfl, hz, hX⟩ := hrel
    by_cases hlt : k < L.length
    · obtain ⟨⟨u, q, a, d⟩, hd⟩ : ∃ p, L[k]? = some p := ⟨_, List.getElem?_eq_getElem hlt⟩
      obtain ⟨A', cap', e', -, -, hat⟩ := ew_form (hC'.out.ext hX.out)
      simp only [Value.slice.injEq] at e'
      obtain ⟨rfl, -, rfl⟩ := e'
      obtain ⟨b, o, rfl, -, hbl, c0, c1, c2⟩ := hat k _ hd
      have hr := (hC'.out.ext hX.out).2 _ (List.mem_of_getElem? hd)
      simp only at c0 c1 c2 hr
      obtain ⟨UA, ucap, rfl⟩ := rw_val hr
      have hde : (eds L)[k]? = some (q, a, d) := by rw [List.getElem?_map, hd]; rfl
      have hnx := hide (frV_next hde t)
      have hab := hin.out _ (List.mem_of_getElem? hde)
      simp only at hab
      rw [← hz.out] at hnx
      haveI : In b wr := ⟨hbl⟩
      clear hat hd hde hr
      by_cases hd0 : 0 < d
      · rw [if_pos hd0] at hnx
        obtain ⟨y, hy⟩ : ∃ y, y = max z (a + 1) := ⟨_, rfl⟩
        rw [← hy] at hnx
        have hmx : max z (a + 1) = y := hy.symm
        replace hy := hide hy
        go_wp2_with fail
        go_roundg (L.length - (k + 1))
        case measure => omega
        case rel => exact ⟨k + 1, y, by go_num, by omega, rfl, hnx.out.symm, hX.out.alloc _⟩
      · rw [if_neg hd0] at hnx
        go_wp2_with fail
        go_roundg (L.length - (k + 1))
        case measure => omega
        case rel => exact ⟨k + 1, z, by go_num, by omega, rfl, hnx.out.symm, hX.out.alloc _⟩
    · have hfin := hide (show z = frV (eds L) t by rw [hz.out, List.take_of_length_le (by simp [eds]; omega)])
      go_wp2_with fail
      go_returns
      exact ⟨by rw [hfin.out]; rfl, hX.out⟩
set_option maxHeartbeats 4000000 in
theorem wclock_c (k s h : Int) (L : List Ve) (t : Int) (v : Value) (w : World) (hC : Ew w [] v L) : Calls Tryz.prog 12 #[wV k s h, v, .int .i64 t] w fun e w' => e = .returned (.tuple #[.int .i64 (wcV k s h (eds L) t), .int .i64 (wrE k s h (eds L) t)]) ∧ Ext w w' := by
  have hw := hide (fun w' (hX : Ext w w') => wwrong_c k s h L t v w' (hC.ext hX))
  have ho := hide (fun w' => hopen_c s h t w')
  have hc := hide (fun w' (hX : Ext w w') => copen_c L s t v w' (hC.ext hX))
  obtain ⟨A, cap, rfl, hlc, hlm, -⟩ := ew_form hC
  clear hC
  obtain ⟨E, hE⟩ : ∃ E, E = wrE k s h (eds L) t := ⟨_, rfl⟩
  rw [← hE] at hw ⊢
  have hb := hide (Ob.new w 24 (wL k s h))
  have c0 := hb.out.cell 0 rfl
  have c1 := hb.out.cell 1 rfl
  have c2 := hb.out.cell 2 rfl
  have hl := hb.out.lt
  haveI : In w.heap.size (w.alloc (.cells #[.int .i64 k, .int .i64 s, .int .i64 h] 24)) := ⟨hl⟩
  by_cases hE0 : E = 0
  case neg =>
    have e1 : wcV k s h (eds L) t = 0 := by unfold wcV; rw [← hE, if_neg hE0]
    rw [e1]
    have hbE : (E != 0) = true := by simpa using hE0
    replace hE := hide hE
    clear e1
    go_enter Tryz.func12, Tryz.ntmps12
    go_wp2_with (go_at_call 32; (with_reducible refine seq_gw (hw.out _ ((Ext.refl w).alloc _)) ?_); intro g1)
    go_returns
    exact ⟨rfl, ((Ext.refl w).alloc _).trans g1.grown⟩
  subst hE0
  obtain ⟨a1, a2, a3, a4, a5⟩ := wrE_zero hE.symm
  obtain ⟨V, hV⟩ : ∃ V, V = wcV k s h (eds L) t := ⟨_, rfl⟩
  rw [← hV]
  have hVe : V = if k = 2 then min t (hopV s h t) else if k = 3 then coV (eds L) s t else t := by rw [hV]; unfold wcV; rw [← hE, if_pos rfl]
  clear hV
  rcases wmay_kind a1 with ⟨rfl, -, -⟩ | ⟨rfl, c, d⟩ | ⟨rfl, c, -⟩
  · rw [if_neg (by decide), if_neg (by decide)] at hVe
    subst hVe
    replace hE := hide hE
    clear a1 a2 a3 a4 a5
    go_enter Tryz.func12, Tryz.ntmps12
    go_wp2_with (go_at_call 32; (with_reducible refine seq_gw (hw.out _ ((Ext.refl w).alloc _)) ?_); intro g1)
    go_returns
    exact ⟨rfl, ((Ext.refl w).alloc _).trans g1.grown⟩
  · rw [if_pos rfl] at hVe
    rw [hopE_of c d ⟨a4, a5⟩] at ho
    obtain ⟨O, hO⟩ : ∃ O, O = hopV s h t := ⟨_, rfl⟩
    rw [← hO] at hVe ho
    have hmn : min t O = V := hVe.symm
    replace hE := hide hE
    replace hO := hide hO
    replace hVe := hide hVe
    clear a1 a2 a3 a4 a5 c d
    go_enter Tryz.func12, Tryz.ntmps12
    go_wp2_with (first | (go_at_call 32; (with_reducible refine seq_gw (hw.out _ ((Ext.refl w).alloc _)) ?_); intro g1) | (go_at_call 33; (with_reducible refine seq_gw (ho.out _) ?_); intro g2))
    go_returns
    exact ⟨by first | rfl | simp [hmn], (((Ext.refl w).alloc _).trans g1.grown).trans g2.grown⟩
  · rw [if_neg (by decide), if_pos rfl] at hVe
    rw [ssE_of c a2 a3 ⟨a4, a5⟩, ← hVe] at hc
    replace hE := hide hE
    replace hVe := hide hVe
    clear a1 a2 a3 a4 a5 c
    go_enter Tryz.func12, Tryz.ntmps12
    go_wp2_with (first | (go_at_call 32; (with_reducible refine seq_gw (hw.out _ ((Ext.refl w).alloc _)) ?_); intro g1) | (go_at_call 34; (with_reducible refine seq_gw (hc.out _ (((Ext.refl w).alloc _).trans g1.grown)) ?_); intro g2))
    go_returns
    exact ⟨rfl, (((Ext.refl w).alloc _).trans g1.grown).trans g2.grown⟩
end Go.Proofs.YtljkneajdndgjaaGreat
set_option linter.unusedVariables false
set_option linter.unusedSimpArgs false
namespace Go.Proofs.YtljkneajdndgjaaGreat
open Go.RowKit
attribute [local go_sem] GW.cell GW.frozen In.eq_true In.le_true In.ne In.ne' In.ne_add In.ne_add' In.lt_add Upto.le_true Upto.le_add Upto.lt_add
def rOne : List Vl := [(1, 1, ⟨#[]⟩)]
abbrev oOne : Obj := .cells #[.int .i64 1, .int .i64 1, .string ⟨#[]⟩] 64
theorem rwOne (w : World) : Rw (w.alloc oOne) [] (.slice (some ⟨w.heap.size, 0, none⟩) 1 1) rOne := Sl.own (World.ownsRow_lit (base := w.heap.size) (e := 64) (size := 3) w #[.int .i64 1, .int .i64 1, .string ⟨#[]⟩] 1 (Nat.le_refl _) (by decide) rfl) (by simp)
end Go.Proofs.YtljkneajdndgjaaGreat
set_option linter.unusedVariables false
set_option linter.unusedSimpArgs false
namespace Go.Proofs.YtljkneajdndgjaaGreat
open Go.RowKit
attribute [local go_sem] GW.cell GW.frozen In.eq_true In.le_true In.ne In.ne' In.ne_add In.ne_add' In.lt_add Upto.le_true Upto.le_add Upto.lt_add
def hpE0 : List Ed := [(rOne, (3, 1)), (rOne, (7, -1))]
abbrev oEdges (W : World) : Obj := .cells #[.slice (some ⟨W.heap.size, 0, none⟩) 1 1, .int .i64 3, .int .i64 1, .slice (some ⟨W.heap.size + 1, 0, none⟩) 1 1, .int .i64 7, .int .i64 (-1)] 58
end Go.Proofs.YtljkneajdndgjaaGreat
