/-
  A helper of ours: no claim of its own. Layer 29 (counts): the windows and their rows, by the code.
-/
import Derived.Test.YtljkneajdndgjaaHopF1
import Derived.Test.YtljkneajdndgjaaCouN
import Derived.Test.YtljkneajdndgjaaHopL
set_option linter.unusedVariables false
set_option linter.unusedSimpArgs false
namespace Go.Proofs.Ytljkneajdndgjaa
open Go.RowKit
attribute [-go_sem] sliced
attribute [local go_sem] sliced_eq
attribute [local go_sem] GW.cell GW.frozen In.eq_true In.le_true In.ne In.ne' In.ne_add In.ne_add' In.lt_add Upto.le_true Upto.le_add Upto.lt_add
/-- Each n starts from the c-th on, wherever they lie. -/
theorem groupsOf_any (D : List Int) (B : Nat) (A : Option Addr) (cap : Nat) (w1 : World) (h : OwnZ w1 B (.slice A D.length cap) D) (hDl : D.length ≤ 4194304) (c n : Nat) (hc : c ≤ D.length) (hn : 1 ≤ n ∧ n ≤ 64) (w : World) : Calls Try.prog 31 #[.slice (cutA A c cap 1) (D.length - c) (cap - c), .int .i64 (n : Int)] w fun e w' => ∃ u g, e = .returned u ∧ w'.ownsRow w.heap.size 25 1 u (D.length - c + 1 - n) (gvs g c n (D.length - c + 1 - n)) ∧ (0 < D.length - c + 1 - n → A = some ⟨g, 0, none⟩) ∧ Ext w w' := by
  rcases Nat.eq_zero_or_pos (D.length - c) with h0 | h0
  · have hk : D.length - c + 1 - n = 0 := by omega
    rw [hk, h0]
    refine (groupsOf_nil _ _ n hn w).mono ?_
    rintro e w' ⟨rfl, hX⟩
    exact ⟨_, 0, rfl, World.ownsRow_nil _ _ _ _, fun k => absurd k (by omega), hX⟩
  · rcases h.2 with ⟨e, k0⟩ | ⟨g, cap', cur, e, hb, hg, hnc, hcm, hcs, ht⟩
    · omega
    · simp only [Value.slice.injEq] at e
      obtain ⟨rfl, -, rfl⟩ := e
      have e : cutA (some ⟨g, 0, none⟩) c cap 1 = some ⟨g, c, none⟩ := by
        unfold cutA
        by_cases k : cap = c
        · omega
        · rw [if_neg k]; simp [Addr.add]; omega
      rw [e]
      refine (groupsOf_c g c (D.length - c) (cap - c) n hn (by omega) (by omega) (by omega) w).mono ?_
      rintro e w' ⟨u, rfl, hO, hX⟩
      exact ⟨u, g, rfl, hO, fun _ => rfl, hX⟩
/-- So many windows, with no rows yet. -/
def cwP (S : List (Int × Int)) : List Vp := S.map fun s => (.slice none 0 0, s, [])
theorem cwP_len (S : List (Int × Int)) : (cwP S).length = S.length := by simp [cwP]
theorem cwP_dis : ∀ S : List (Int × Int), Dis (cwP S) := fun S => by
  unfold Dis
  rw [List.pairwise_iff_forall_sublist]
  intro a b h
  have ha : a ∈ cwP S := h.subset (by simp)
  obtain ⟨s, -, rfl⟩ := List.mem_map.1 ha
  intro x hx
  cases hx
theorem cwP_next {S : List (Int × Int)} {k : Nat} {s : Int × Int} (h : S[k]? = some s) : cwP (S.take (k + 1)) = cwP (S.take k) ++ [(.slice none 0 0, s, [])] := by
  unfold cwP
  rw [List.take_add_one, h, Option.toList_some, List.map_append]
  rfl
theorem cp_fin {P P' : List Vp} {S : List (Int × Int)} {G : List Gp} (hP : P = cwP S) (h1 : P'.map (fun p => p.2.1) = P.map fun p => p.2.1) (h2 : ∀ p ∈ P', cps p.2.2 = cfR G p.2.1) : pts P' = S.map fun s => (s, cfR G s) := by
  have e : P'.map (fun p => p.2.1) = S := by rw [h1, hP]; simp [cwP, Function.comp_def]
  rw [← e, List.map_map]
  exact List.map_congr_left fun p hp => by rw [h2 p hp]; rfl
set_option maxHeartbeats 8000000 in
set_option maxRecDepth 100000 in
theorem cpParts_c (L : List Ve) (n t : Int) (v : Value) (w : World) (hC : Ew w [] v L) : Calls Try.prog 13 #[v, .int .i64 n, .int .i64 t] w fun e w' => ∃ v' P, e = .returned (.tuple #[v', .int .i64 (cpE (eds L) n t)]) ∧ pts P = cpL (eds L) n t ∧ OwnP w' w.heap.size v' P ∧ Ext w w' := by
  have hs := hide (startsFor_c L n t v w hC)
  have hC' := hide hC
  obtain ⟨A, cap, rfl, hlc, hlm, -⟩ := ew_form hC
  clear hC
  obtain ⟨E, hE⟩ : ∃ E, E = ssE (eds L) n t := ⟨_, rfl⟩
  obtain ⟨D, hD⟩ : ∃ D, D = ssL (eds L) n t := ⟨_, rfl⟩
  rw [← hE, ← hD] at hs
  by_cases hE0 : E = 0
  case neg =>
    have e1 : cpE (eds L) n t = E := by unfold cpE; rw [← hE, if_neg hE0]
    have e2 : cpL (eds L) n t = [] := by unfold cpL; rw [e1, if_neg hE0]
    rw [e1, e2]
    have hb : (E != 0) = true := by simpa using hE0
    replace hE := hide hE
    replace hD := hide hD
    clear e1 e2
    go_enter Try.func13, Try.ntmps13
    go_wp2_with (go_at_call 28; refine hs.out.mono ?_; rintro ee w1 ⟨v1, rfl, ho1, hX1⟩; have hX2 := hide hX1; obtain ⟨A1, c1, q1⟩ := own_form ho1; subst q1; clear ho1 hX1)
    go_returns
    exact ⟨_, [], rfl, rfl, OwnP.nil _ _, hX2.out⟩
  subst hE0
  obtain ⟨⟨n1, n2⟩, ⟨hm, -⟩, t1, t2⟩ := ssE_ok hE.symm
  obtain ⟨m, rfl⟩ : ∃ m : Nat, n = ((m + 1 : Nat) : Int) := ⟨n.toNat - 1, by omega⟩
  have hDe : D = csT (eds L) := by rw [hD]; unfold ssL; rw [← hE, if_pos rfl]
  have hDl : D.length ≤ 4194304 := by rw [hDe]; exact csT_len hm
  have hDa : Hid (D.Pairwise (· < ·)) := by rw [hDe]; exact csT_asc _
  have hDin : Hid (∀ x ∈ D, 0 ≤ x ∧ x < 1125899906842624) := by rw [hDe]; exact fun x hx => csT_in hm hx
  have hcl : sbN D t ≤ D.length := List.countP_le_length
  obtain ⟨c, hc⟩ : ∃ c, c = sbN D t := ⟨_, rfl⟩
  rw [← hc] at hcl
  obtain ⟨K, hK⟩ : ∃ K, K = D.length - c + 1 - (m + 1) := ⟨_, rfl⟩
  obtain ⟨S, hS⟩ : ∃ S, S = cwS (D.drop c) (m + 1) := ⟨_, rfl⟩
  have hSl : S.length = K := by rw [hS, cwS_len, List.length_drop, hK]
  have eD : cpD (eds L) t = D.drop c := by unfold cpD; rw [← hDe, ← hc]
  have eE : cpE (eds L) ((m + 1 : Nat) : Int) t = if 1024 < K then 7 else 0 := by unfold cpE; rw [← hE, if_pos rfl, eD, List.length_drop, hK]; simp
  have eL : cpL (eds L) ((m + 1 : Nat) : Int) t = if 1024 < K then [] else S.map fun s => (s, cfR (grp (eds L)) s) := by
    unfold cpL
    rw [eE]
    by_cases k : 1024 < K
    · rw [if_pos k, if_pos k]; rfl
    · rw [if_neg k, if_neg k, if_pos rfl]; unfold cpT; rw [eD, hS]; simp
  rw [eE, eL]
  have hbs := hide (fun v w' (h : OwnZ w' w.heap.size v D) => ibin_c w.heap.size D t v w' h (by omega) (hDa.out.imp fun {a b} h => by omega))
  rw [← hc] at hbs
  have hgo := hide (fun A cap w1 (h : OwnZ w1 w.heap.size (.slice A D.length cap) D) w' => groupsOf_any D w.heap.size A cap w1 h hDl c (m + 1) hcl ⟨by omega, by omega⟩ w')
  rw [← hK] at hgo
  have hfn := hide (fun w' (hX : Ext w w') => fill_nil L hm _ w' (hC'.out.ext hX))
  have hcl1 : (c : Int) ≤ (D.length : Int) := by omega
  replace hE := hide hE
  replace hD := hide hD
  replace hDe := hide hDe
  replace hc := hide hc
  replace hK := hide hK
  replace hS := hide hS
  clear eD eE eL
  by_cases hfull : 1024 < K
  · rw [if_pos hfull, if_pos hfull]
    have hkk : (1024 : Int) < (K : Int) := by omega
    go_enter Try.func13, Try.ntmps13
    go_wp2_with (first | (go_at_call 28; refine hs.out.mono ?_; rintro ee w1 ⟨v1, rfl, ho1, hX1⟩; have hX2 := hide hX1; have hb2 := hide (hbs.out v1 w1 ho1); obtain ⟨A1, c1, q1⟩ := own_form ho1; subst q1; have hg2 := hide (hgo.out A1 c1 w1 ho1); clear ho1 hX1) | (go_at_call 29; refine hb2.out.mono ?_; rintro ee w2 ⟨rfl, hY⟩; have hX3 := hide (hX2.out.trans hY); clear hY) | (go_at_call 31; refine (hg2.out _).mono ?_; rintro ee w3 ⟨u3, g3, rfl, ho3, -, hY⟩; have hX4 := hide (hX3.out.trans hY); obtain ⟨A3, c3, q3⟩ := own_form ho3; subst q3; clear ho3 hY))
    go_returns
    exact ⟨_, [], rfl, rfl, OwnP.nil _ _, hX4.out⟩
  rw [if_neg hfull, if_neg hfull]
  have hkk : ¬ (1024 : Int) < (K : Int) := by omega
  go_enter Try.func13, Try.ntmps13
  go_wp2_with (first | (go_at_call 28; refine hs.out.mono ?_; rintro ee w1 ⟨v1, rfl, ho1, hX1⟩; have hX2 := hide hX1; have ho2 := hide ho1; have hb2 := hide (hbs.out v1 w1 ho1); obtain ⟨A1, c1, q1⟩ := own_form ho1; subst q1; have hg2 := hide (hgo.out A1 c1 w1 ho1); clear ho1 hX1) | (go_at_call 29; refine hb2.out.mono ?_; rintro ee w2 ⟨rfl, hY⟩; have hX3 := hide (hX2.out.trans hY); have ho12 := hide (own_ext ho2.out hY); clear hY) | (go_at_call 31; refine (hg2.out _).mono ?_; rintro ee w3 ⟨u3, g3, rfl, ho3, hA3, hY⟩; have hX4 := hide (hX3.out.trans hY); have ho13 := hide (own_ext ho12.out hY); have hA4 := hide hA3; have ho4 := hide ho3; obtain ⟨A3, c3, q3⟩ := own_form ho3; subst q3; clear ho3 hY hA3))
  have hzw3 := hX4.out.size
  go_loopg [13, 42] K (fun gh u i wr => ∃ (k : Nat), i = .int .i64 k ∧ k + gh = K ∧ Hid (OwnP wr w3.heap.size u (cwP (S.take k))) ∧ (k = 0 → u = .slice none 0 0) ∧ Hid (Ext w3 wr))
  case atStart => exact ⟨0, by go_num, by omega, OwnP.nil _ _, fun _ => rfl, Ext.refl _⟩
  case round =>
    obtain ⟨k, rfl, hk, hO, hu, hX⟩ := hrel
    by_cases hlt : k < K
    · have hA5 := hA4.out (by omega)
      obtain ⟨gg, gc, q5, -, l5⟩ := own_block2 (own_ext ho4.out hX.out) (by omega)
      simp only [Value.slice.injEq] at q5
      obtain ⟨rfl, -, rfl⟩ := q5
      have z0 := World.ownsRow.cellAt (own_ext ho4.out hX.out) k (by omega)
      rw [show (gvs g3 c (m + 1) K)[k]? = some (gv g3 c (m + 1) k) by simp [gvs, hlt]] at z0
      unfold gv at z0
      subst hA5
      haveI : In gg wr := ⟨l5⟩
      have hKe := hK.out
      have hod := own_ext ho13.out hX.out
      obtain ⟨x, hx⟩ : ∃ x, D[c + k]? = some x := ⟨_, List.getElem?_eq_getElem (by omega)⟩
      obtain ⟨y, hy⟩ : ∃ y, D[c + k + m]? = some y := ⟨_, List.getElem?_eq_getElem (by omega)⟩
      have kx := World.ownsRow.cellAt hod (c + k) (by omega)
      have ky := World.ownsRow.cellAt hod (c + k + m) (by omega)
      rw [show (zc D)[c + k]? = some (.int .i64 x) by simp [zc, hx]] at kx
      rw [show (zc D)[c + k + m]? = some (.int .i64 y) by simp [zc, hy]] at ky
      have hyb := hDin.out y (List.mem_of_getElem? hy)
      obtain ⟨g9, c9, q9, -, l9⟩ := own_block2 hod (by omega)
      simp only [Value.slice.injEq, Option.some.injEq, Addr.mk.injEq] at q9
      obtain ⟨⟨rfl, -, -⟩, -, rfl⟩ := q9
      have hlf := hide (fun w' (hX' : Ext wr w') => life_c g3 (c + k) m (m + 1) x y (by omega) (by omega) w' (Nat.lt_of_lt_of_le l9 hX'.size) (cell_later hX' kx) (cell_later hX' ky))
      have hSk : S[k]? = some (x, y + 1) := by
        rw [hS.out]
        unfold cwS
        rw [List.getElem?_map, List.getElem?_range (by rw [List.length_drop]; omega)]
        simp only [Option.map_some, List.getD_eq_getElem?_getD, List.getElem?_drop]
        rw [show c + (k + (m + 1) - 1) = c + k + m by omega, hx, hy]
        rfl
      have hnx := hide (cwP_next hSk)
      have hPl : (cwP (S.take k)).length = k := by rw [cwP_len, List.length_take]; omega
      obtain ⟨P, hP⟩ : ∃ P, P = cwP (S.take k) := ⟨_, rfl⟩
      rw [← hP] at hO hPl hnx
      obtain ⟨PA, pcap, rfl⟩ := hO.out.form
      have hO1 := hide hO.out
      have hzr := hX.out.size
      have hPl1 : P.length ≤ k := by omega
      replace hPl := hide hPl
      replace hP := hide hP
      clear kx ky hx hy hod hu hKe hSk
      go_wp2_with (first | (go_at_call 32; (with_reducible refine seq_gw (hlf.out _ (Ext.refl _)) ?_); intro g6; have hO6 := hide (hO1.out.ext g6.grown)) | (at_builtin; refine wpl_app tPa rfl (.tmp 46) (.tmp 50) rfl rfl (own_ext hO6.out.1 ((Ext.refl g6.val).alloc _)) rfl (src_sl Try.underlying32 (sl_lit g6.val 44 3 [.int .i64 x, .int .i64 (y + 1), .slice none 0 0] rfl) (by intro u hu; simp at hu; rcases hu with rfl | rfl | rfl <;> rfl) (by omega)) (by unfold maxLen; omega) (by omega) (by simp only [World.size_alloc]; have := g6.grown.size; omega) ?_; intro v8 w8 ho8 hg8 hob8; have ho9 := hide ho8; have hg9 := hide hg8; obtain ⟨A8, c8, q8⟩ := own_form ho8; subst q8; clear ho8 hg8 hob8))
      have hF9 : Fr (ob (.slice PA P.length pcap)) g6.val w8 := ((Fr.refl _ _).alloc _).grown hg9.out (fun j hj => .inl (Option.mem_toList.2 hj))
      have hobP := ob_ge hO.out.1
      go_roundg (K - (k + 1))
      case measure => omega
      case rel =>
        refine ⟨k + 1, by go_num, by omega, ?_, fun h => absurd h (by omega), ext_fr (hX.out.trans g6.grown) hF9 (fun y hy => (hobP y hy).1)⟩
        show OwnP _ _ _ _
        rw [hnx.out]
        exact OwnP.app (p := (.slice none 0 0, (x, y + 1), [])) hO6.out hF9 (by simpa [pt1] using ho9.out) ⟨World.ownsRow_nil _ _ _ _, by simp⟩
    · have hkK : k = K := by omega
      have hPe : S.take k = S := List.take_of_length_le (by omega)
      rw [hPe] at hO
      have hPl : (cwP S).length = K := by rw [cwP_len, hSl]
      rcases Nat.eq_zero_or_pos K with h0 | h0
      · have hS0 : S = [] := List.eq_nil_of_length_eq_zero (by omega)
        obtain rfl := hu (by omega)
        replace hS := hide hS
        have hXX := hide (hX4.out.trans hX.out)
        have hff := hide (hfn.out _ hXX.out)
        have hS0' := hide hS0
        clear hPe hPl hkK hS0
        go_wp2_with (go_at_call 33; refine hff.out.mono ?_; rintro ee w9 ⟨rfl, hY⟩; have hX9 := hide (hXX.out.trans hY))
        go_returns
        exact ⟨_, [], rfl, by rw [hS0'.out]; rfl, OwnP.nil _ _, hX9.out⟩
      · have hO1 := hO.out.1
        rw [hPl] at hO1
        obtain ⟨gp, pc, rfl, -, -⟩ := own_block2 hO1 h0
        have hff := hide (fill_c L hm (cwP S) gp K pc (by omega) (fun p hp => by obtain ⟨s, -, rfl⟩ := List.mem_map.1 hp; exact ⟨rfl, rfl⟩) _ w3 wr w3.heap.size hX.out (Nat.le_refl _) hO.out hPl (cwP_dis S) (hC'.out.ext (hX4.out.trans hX.out)))
        clear hPe hPl hkK hO1
        go_wp2_with (go_at_call 33; refine hff.out.mono ?_; rintro ee w9 ⟨rfl, hY, P9, hp9, hd9, hs9, hr9⟩; have hX9 := hide (hX4.out.trans hY); have hp10 := hide hp9; have hs10 := hide hs9; have hr10 := hide hr9; clear hp9 hs9 hr9 hd9)
        go_returns
        exact ⟨_, P9, rfl, cp_fin rfl hs10.out hr10.out, hp10.out.base hzw3, hX9.out⟩
end Go.Proofs.Ytljkneajdndgjaa
