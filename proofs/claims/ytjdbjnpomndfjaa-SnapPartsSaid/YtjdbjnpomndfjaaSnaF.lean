/-
  A helper of ours: no claim of its own. Layer 27 (snap): the snapshots and their rows, by the code.
-/
import Derived.Test.YtjdbjnpomndfjaaRg
import Derived.Test.YtjdbjnpomndfjaaSnaD
import Derived.Test.YtjdbjnpomndfjaaSnaE
set_option linter.unusedVariables false
set_option linter.unusedSimpArgs false
namespace Go.Proofs.Ytjdbjnpomndfjaa
open Go.RowKit
attribute [local go_sem] GW.cell GW.frozen In.eq_true In.le_true In.ne In.ne' In.ne_add In.ne_add' In.lt_add Upto.le_true Upto.le_add Upto.lt_add
theorem tPa : ElemT Try.prog 30 38 (.agg #[.int .i64 0, .int .i64 0, .slice none 0 0]) 3 40 := ElemT.mk' Try.underlying30 (by kernel_rfl) rfl (by omega)
/-- One more part. -/
theorem OwnP.app {w w' : World} {B : Nat} {v v' : Value} {P : List Vp} {p : Vp} (h : OwnP w B v P) (hF : Fr (ob v) w w') (ho : w'.ownsRow B 38 3 v' (P.length + 1) (pt P ++ pt1 p)) (hp : OwnC w B p.1 p.2.2) : OwnP w' B v' (P ++ [p]) := by
  have hk : ∀ b ∈ ob v, ∀ cs c, w.heap[b]? ≠ some (.cells cs 62 c) := fun b hb => by
    obtain ⟨cs, c, hc⟩ := own_kind h.1 hb
    exact no_kind hc (by decide)
  refine ⟨by rw [List.length_append, pt_append]; simpa [pt] using ho, fun q hq => ?_⟩
  rcases List.mem_append.1 hq with hq | hq
  · exact (h.2 q hq).away hF fun b hb => ⟨own_far h.1 (h.2 q hq).1 (by decide) b hb, hk b hb⟩
  · obtain rfl := List.mem_singleton.1 hq
    exact hp.away hF fun b hb => ⟨own_far h.1 hp.1 (by decide) b hb, hk b hb⟩
theorem Dis.app {w : World} {B : Nat} {v : Value} {P : List Vp} {p : Vp} (h : Dis P) (ho : OwnP w B v P) (hp : ∀ b ∈ ob p.1, w.heap.size ≤ b) : Dis (P ++ [p]) := by
  unfold Dis
  rw [List.pairwise_append]
  refine ⟨h, by simp, fun a ha c hc b hb hb2 => ?_⟩
  obtain rfl := List.mem_singleton.1 hc
  have h1 := (ob_ge (ho.2 a ha).1 b hb).2
  have h2 := hp b hb2
  omega
/-- Each part has few rows, and short ones. -/
def Sml (P : List Vp) : Prop := ∀ p ∈ P, p.2.2.length ≤ 4096 ∧ ∀ c ∈ p.2.2, c.2.1.length ≤ 8
theorem sml_of {G : List Gp} {t : Int} {C : List Vc} (h : cps C = alG G t) (hG : G.length ≤ 4096) (h8 : ∀ g ∈ G, g.1.length ≤ 8) : C.length ≤ 4096 ∧ ∀ c ∈ C, c.2.1.length ≤ 8 := by
  constructor
  · have := congrArg List.length h
    rw [List.length_map] at this
    have := alG_len G t
    omega
  · intro c hc
    have h1 : c.2 ∈ alG G t := by rw [← h]; exact List.mem_map.2 ⟨c, hc, rfl⟩
    unfold alG at h1
    obtain ⟨g, hg, e⟩ := List.mem_map.1 h1
    have := h8 g (List.mem_filter.1 hg).1
    rw [← e]
    exact this
set_option maxHeartbeats 8000000 in
set_option maxRecDepth 100000 in
theorem snParts_c (L : List Ve) (f : Int) (v : Value) (w : World) (hC : Ew w [] v L) : Calls Try.prog 19 #[v, .int .i64 f] w fun e w' => ∃ v' P, e = .returned (.tuple #[v', .int .i64 (snE (eds L) f)]) ∧ pts P = snL (eds L) f ∧ OwnP w' w.heap.size v' P ∧ Ext w w' := by
  have hcu := hide (snCuts_c L f v w hC)
  have hC' := hide hC
  have hcl := cuL_len (eds L) f
  rw [show (eds L).length = L.length from List.length_map _] at hcl
  obtain ⟨A, cap, rfl, hlc, hlm, -⟩ := ew_form hC
  clear hC
  obtain ⟨E, hE⟩ : ∃ E, E = cuE (eds L) f := ⟨_, rfl⟩
  obtain ⟨c, hc⟩ : ∃ c, c = cuL (eds L) f := ⟨_, rfl⟩
  rw [← hc] at hcl
  rw [← hE, ← hc] at hcu
  by_cases hE0 : E = 0
  case neg =>
    have e1 : snE (eds L) f = E := by unfold snE; rw [← hE, if_neg hE0]
    have e2 : snL (eds L) f = [] := by unfold snL; rw [e1, if_neg hE0]
    rw [e1, e2]
    have hb : (E == 0) = false := by simpa using hE0
    have hb2 : (E != 0) = true := by simpa using hE0
    replace hE := hide hE
    replace hc := hide hc
    clear e1 e2
    go_enter Try.func19, Try.ntmps19
    go_wp2_with (go_at_call 17; refine hcu.out.mono ?_; rintro ee w1 ⟨v1, rfl, ho1, hX1⟩; have ho2 := hide ho1; have hX2 := hide hX1; clear ho1 hX1)
    go_returns
    exact ⟨_, [], rfl, rfl, OwnP.nil _ _, hX2.out⟩
  subst hE0
  obtain ⟨hm, -, -⟩ := cuE_zero.1 hE.symm
  have hLl : L.length ≤ 4096 := by have := mayE_len hm; simpa [eds] using this
  have hgl : (grp (eds L)).length ≤ 4096 := by have := grp_len2 (eds L); rw [show (eds L).length = L.length from List.length_map _] at this; omega
  have hG8 := hide (grp_r8 hm)
  have hro := hide (fun w' (hX : Ext w w') => rowsOf_c L hm (.slice A L.length cap) w' (hC'.out.ext hX))
  have eE : snE (eds L) f = if 1024 < (snT (eds L) f).length then 7 else 0 := by unfold snE; rw [← hE, if_pos rfl]
  have eT : snT (eds L) f = paG (grp (eds L)) (spC c) := by unfold snT; rw [← hc]
  obtain ⟨EE, hEE⟩ : ∃ EE, EE = snE (eds L) f := ⟨_, rfl⟩
  obtain ⟨RR, hRR⟩ : ∃ RR, RR = snL (eds L) f := ⟨_, rfl⟩
  rw [← hEE, ← hRR]
  unfold snL at hRR
  rw [← hEE, eT] at hRR
  rw [eE, eT] at hEE
  obtain ⟨G, hG⟩ : ∃ G, G = grp (eds L) := ⟨_, rfl⟩
  rw [← hG] at hgl hG8 hro hRR hEE
  replace hEE := hide hEE
  replace hRR := hide hRR
  have hG' := hide hG
  clear hE hc eE eT hG
  have hspl := spC_len c
  go_enter Try.func19, Try.ntmps19
  go_wp2_with (first | (go_at_call 17; refine hcu.out.mono ?_; rintro ee w1 ⟨v1, rfl, ho1, hX1⟩; have ho2 := hide ho1; have hX2 := hide hX1; obtain ⟨CA, ccap, q1⟩ := own_form ho1; subst q1; clear ho1 hX1) | (go_at_call 51; refine (hro.out _ hX2.out).mono ?_; rintro ee w3 ⟨b3, mv, M, rfl, hb3, hK3, hkg, hX3⟩; have hb4 := hide hb3; have hK4 := hide hK3; have hX4 := hide (hX2.out.trans hX3); have ho4 := hide (own_ext ho2.out hX3); have hkg4 := hide hkg; clear hb3 hK3 hX3 hkg))
  have hMl : M.length ≤ 4096 := by have := congrArg List.length hkg4.out; rw [List.length_map] at this; omega
  go_loopg [9, 26] c.length (fun gh u i wr => ∃ (k : Nat) (P : List Vp), i = .int .i64 k ∧ k + gh = c.length ∧ Hid (OwnP wr w3.heap.size u P) ∧ Hid (Dis P ∧ Sml P) ∧ Hid (pts P = paG G ((spC c).take k)) ∧ P.length ≤ 1024 ∧ Hid (Ext w3 wr))
  case atStart => exact ⟨0, [], by go_num, by omega, OwnP.nil _ _, ⟨List.Pairwise.nil, by intro p hp; cases hp⟩, rfl, by simp, Ext.refl _⟩
  case round =>
    obtain ⟨k, P, rfl, hk, hO, hDS, hpt, hPl, hX⟩ := hrel
    obtain ⟨PA, pcap, rfl⟩ := hO.out.form
    by_cases hlt : k < c.length
    · obtain ⟨t, ht⟩ : ∃ t, c[k]? = some t := ⟨_, List.getElem?_eq_getElem hlt⟩
      have hor := own_ext ho4.out hX.out
      obtain ⟨A', cp', e', -, -, hat⟩ := zw_form (own_zw hor)
      simp only [Value.slice.injEq] at e'
      obtain ⟨rfl, -, rfl⟩ := e'
      obtain ⟨b, o, rfl, -, hbl, c0⟩ := hat k t ht
      haveI : In b wr := ⟨hbl⟩
      have hnx := hide (paG_next (G := G) (spC_at c k t ht))
      have hra := hide (rowsAt_c M mv b3 _ t wr (hb4.out.ext hX.out) (hK4.out.ext hX.out) hMl)
      have hzr : w3.heap.size ≤ wr.heap.size := hX.out.size
      have hzw3 : w.heap.size ≤ w3.heap.size := hX4.out.size
      have hnn := hide (fun w' (hX' : Ext wr w') => snNext_c c k hlt (by omega) (.slice (some ⟨b, o, none⟩) c.length ccap) w' (own_zw (own_ext hor hX')))
      obtain ⟨nx, hnxe⟩ : ∃ nx, nx = (c[k + 1]?).getD 1125899906842624 := ⟨_, rfl⟩
      rw [← hnxe] at hnn hnx
      replace hnxe := hide hnxe
      clear hat ht hor
      by_cases hem : alG G t = []
      · rw [if_pos hem, List.append_nil] at hnx
        replace hem := hide hem
        go_wp2_with (go_at_call 97; refine hra.out.mono ?_; rintro ee w5 ⟨v5, C, rfl, hcC, hoC, hX5⟩; (obtain ⟨rfl⟩ : C = [] := by (rw [hkg4.out, hem.out] at hcC; simpa using hcC)); have hX6 := hide hX5; obtain ⟨VA, vcap, q5⟩ := hoC.form; subst q5; clear hcC hoC hX5)
        go_roundg (c.length - (k + 1))
        case measure => omega
        case rel => exact ⟨k + 1, P, by go_num, by omega, hO.out.ext hX6.out, hDS.out, (by show _ = _; rw [hnx.out]; exact hpt.out), hPl, hX.out.trans hX6.out⟩
      · rw [if_neg hem] at hnx
        have hPT : P.length = (paG G ((spC c).take k)).length := by rw [← hpt.out, List.length_map]
        by_cases hfull : P.length = 1024
        · have hb7 : ((P.length : Int) == 1024) = true := by simp; omega
          have hpre := paG_pre G (spC c) (k + 1)
          rw [hnx.out, List.length_append, ← hPT, List.length_singleton] at hpre
          have e7 : EE = 7 := by rw [hEE.out, if_pos (by omega)]
          have e8 : RR = [] := by rw [hRR.out, if_neg (by omega)]
          have e7' := hide e7
          have e8' := hide e8
          clear hPT hpre e7 e8
          replace hem := hide hem
          replace hfull := hide hfull
          go_wp2_with (go_at_call 97; refine hra.out.mono ?_; rintro ee w5 ⟨v5, C, rfl, hcC, hoC, hX5⟩; (have hC0 : (((C.length : Nat) : Int) == 0) = false := by (have h0 : C ≠ [] := fun e => hem.out (by rw [← hkg4.out, ← hcC, e]; rfl); have := List.length_pos_iff.2 h0; simp; omega)); have hX6 := hide hX5; obtain ⟨VA, vcap, q5⟩ := hoC.form; subst q5; clear hcC hoC hX5)
          go_returns
          rw [e7'.out, e8'.out]
          exact ⟨_, [], rfl, rfl, OwnP.nil _ _, (hX4.out.trans hX.out).trans hX6.out⟩
        · have hb7 : ((P.length : Int) == 1024) = false := by simp; omega
          clear hPT
          replace hem := hide hem
          go_wp2_with (first | (go_at_call 97; refine hra.out.mono ?_; rintro ee w5 ⟨v5, C, rfl, hcC, hoC, hX5⟩; (have hC0 : (((C.length : Nat) : Int) == 0) = false := by (have h0 : C ≠ [] := fun e => hem.out (by rw [← hkg4.out, ← hcC, e]; rfl); have := List.length_pos_iff.2 h0; simp; omega)); have hX6 := hide hX5; have hcC' := hide hcC; have hoC' := hide hoC; have hO5 := hide (hO.out.ext hX5); obtain ⟨VA, vcap, q5⟩ := hoC.form; subst q5; clear hcC hoC hX5) | (go_at_call 52; (with_reducible refine seq_gw (hnn.out _ hX6.out) ?_); intro g1; have hO6 := hide (hO5.out.ext g1.grown); have hoC6 := hide (hoC'.out.ext g1.grown)) | (at_builtin; refine wpl_app tPa rfl (.tmp 40) (.tmp 48) rfl rfl (own_ext hO6.out.1 ((Ext.refl g1.val).alloc _)) rfl (src_sl Try.underlying30 (sl_lit g1.val 38 3 [.int .i64 t, .int .i64 nx, .slice VA C.length vcap] rfl) (by intro u hu; simp at hu; rcases hu with rfl | rfl | rfl <;> rfl) (by omega)) (by unfold maxLen; omega) (by omega) (by simp only [World.size_alloc]; have := hX6.out.size; have := g1.grown.size; omega) ?_; intro v8 w8 ho8 hg8 hob8; have ho9 := hide ho8; have hg9 := hide hg8; obtain ⟨A8, c8, q8⟩ := own_form ho8; subst q8; clear ho8 hg8 hob8))
          have hF9 : Fr (ob (.slice PA P.length pcap)) g1.val w8 := ((Fr.refl _ _).alloc _).grown hg9.out (fun j hj => .inl (Option.mem_toList.2 hj))
          have hobP := ob_ge hO.out.1
          go_roundg (c.length - (k + 1))
          case measure => omega
          case rel =>
            have hzz := hX6.out.size
            refine ⟨k + 1, P ++ [(Value.slice VA C.length vcap, (t, nx), C)], by go_num, by omega, (show OwnP w8 w3.heap.size (.slice A8 (P.length + 1) c8) (P ++ [(Value.slice VA C.length vcap, (t, nx), C)]) from OwnP.app (p := (.slice VA C.length vcap, (t, nx), C)) hO6.out hF9 (by simpa [pt1] using ho9.out) (hoC6.out.base hzr)), ⟨Dis.app hDS.out.1 hO.out (fun b hb => (ob_ge hoC'.out.1 b hb).1), ?_⟩, ?_, by simp; omega, ext_fr (hX.out.trans (hX6.out.trans g1.grown)) hF9 (fun y hy => ?_)⟩
            · intro p hp
              rcases List.mem_append.1 hp with hp | hp
              · exact hDS.out.2 p hp
              · obtain rfl := List.mem_singleton.1 hp
                exact sml_of (hcC'.out.trans (by rw [hkg4.out])) hgl hG8.out
            · show _ = _
              rw [hnx.out, ← hpt.out, pts_append]
              simp [hcC'.out, hkg4.out]
            · exact (hobP y hy).1
    · have hkc : k = c.length := by omega
      have hfin := hide (show pts P = paG G (spC c) by rw [hpt.out, List.take_of_length_le (by omega)])
      have hPT : (paG G (spC c)).length = P.length := by rw [← hfin.out, List.length_map]
      have e7 : EE = 0 := by rw [hEE.out, if_neg (by omega)]
      have e8 : RR = paG G (spC c) := by rw [hRR.out, if_pos e7]
      have e7' := hide e7
      have e8' := hide e8
      clear hPT e7 e8
      have hw := hide (snOwn_c P w3.heap.size (.slice PA P.length pcap) wr hO.out hDS.out.1 (by omega) hDS.out.2)
      go_wp2_with (go_at_call 53; refine hw.out.mono ?_; rintro ee w9 ⟨P', rfl, hp9, ho9, hF9⟩; have hp10 := hide hp9; have ho10 := hide ho9; have hF10 := hide hF9; clear hp9 ho9 hF9)
      go_returns
      rw [e7'.out, e8'.out]
      have hz3 := hX4.out.size
      refine ⟨_, P', rfl, hp10.out.trans hfin.out, ho10.out.base hz3, ext_fr (hX4.out.trans hX.out) hF10.out fun b hb => ?_⟩
      obtain ⟨p, hp, hbp⟩ := List.mem_flatMap.1 hb
      have := (ob_ge (hO.out.2 p hp).1 b hbp).1
      omega
end Go.Proofs.Ytjdbjnpomndfjaa
