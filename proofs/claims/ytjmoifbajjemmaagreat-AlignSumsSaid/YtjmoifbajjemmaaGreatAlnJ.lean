/-
  A helper of ours: no claim of its own. Layer 16 (align): what is released, by the document.
-/
import Derived.Test.YtjmoifbajjemmaaGreatAlnI
set_option linter.unusedVariables false
set_option linter.unusedSimpArgs false
namespace Go.Proofs.YtjmoifbajjemmaaGreat
open Go.RowKit
attribute [local go_sem] GW.cell GW.frozen In.eq_true In.le_true In.ne In.ne' In.ne_add In.ne_add' In.lt_add Upto.le_true Upto.le_add Upto.lt_add
theorem RA.less {w : World} {S S' : List Nat} {r cb hb cc hc : Nat} {st : List Hi} (h : RA w S r cb hb cc hc st) (hs : ∀ b, b ∈ S' → b ∈ S) (h1 : cb ∈ S') (h2 : hb ∈ S') : RA w S' r cb hb cc hc st :=
  ⟨h.1, fun p hp => (h.2.1 p hp).less hs, ⟨fun m => h.2.2.1.1 (hs _ m), h1, h2⟩, h.2.2.2⟩
set_option maxHeartbeats 8000000 in
set_option maxRecDepth 100000 in
theorem refAlRelease_c (S : List Nat) (r cb hb cc hc : Nat) (st : List Hi) (hn1 : 1 ≤ st.length) (hn8 : st.length ≤ 8) (hInv : InvX (absX st)) (hLL : ∀ p ∈ st, p.2.2.length ≤ 1000000000) (w : World) (h : RA w S r cb hb cc hc st) (hS : ∀ b, b ∈ S → b < w.heap.size) : Calls Tryz.prog 17 #[.pointer (some ⟨r, 0, none⟩)] w fun e w' => ∃ v H, e = .returned v ∧ H.map (fun p => eds p.2) = sureX (clkX (absX st)) (absX st) ∧ Mt w' S v H ∧ (∃ st', absX st' = openX (clkX (absX st)) (absX st) ∧ RA w' S r cb hb cc hc st') ∧ Fr [hb] w w' := by
  have hck := hide (fun w' (hX : Ext w w') => refAlClock_c S r cb hb cc hc st hn1 hn8 hInv w' (h.ext hX))
  obtain ⟨t, ht⟩ : ∃ t, t = clkX (absX st) := ⟨_, rfl⟩
  rw [← ht] at hck ⊢
  replace ht := hide ht
  obtain ⟨n, hn⟩ : ∃ n, n = st.length := ⟨_, rfl⟩
  rw [← hn] at hn8
  have hh := hide h
  replace hS := hide hS
  replace hLL := hide hLL
  clear h hInv
  replace hn := hide hn
  have hlit := hide (fun (W : World) => World.ownsRow_lit (base := W.heap.size) (e := 34) (size := 1) W #[] 0 (Nat.le_refl _) (by decide) rfl)
  have hlitE := hide (fun (W : World) => World.ownsRow_lit (base := W.heap.size) (e := 44) (size := 3) W #[] 0 (Nat.le_refl _) (by decide) rfl)
  have hcbl := hh.out.cblt
  have hhbl := hh.out.hblt
  have hrlw := hh.out.1.1.lt
  go_enter Tryz.func17, Tryz.ntmps17
  go_wp2_with (go_at_call 18; (with_reducible refine seq_gw (hck.out _ (Ext.refl _)) ?_); intro g)
  obtain ⟨W1, hW1⟩ : ∃ W1, W1 = g.val := ⟨_, rfl⟩
  have hX1 := hide (hW1 ▸ g.grown : Ext w W1)
  rw [← hW1]
  clear hW1
  obtain ⟨Wc, hWc⟩ : ∃ Wc, Wc = W1.alloc (.cells #[] 34) := ⟨_, rfl⟩
  have hXc := hide (show Ext w Wc by rw [hWc]; exact hX1.out.alloc _)
  have hz1 := hX1.out.size
  have ho0 := hide (show Wc.ownsRow w.heap.size 34 1 (.slice (some ⟨W1.heap.size, 0, none⟩) 0 0) 0 [] by rw [hWc]; exact own_base (hlit.out W1) hz1)
  have hRA0 := hide (show RA Wc ([W1.heap.size] ++ S) r cb hb cc hc st by
    have h0 := hh.out.ext hXc.out
    refine ⟨h0.1, fun p hp => Ew.ext (Ew.newA (hh.out.2.1 p hp) fun b hb => ?_) hXc.out, ⟨fun m => ?_, List.mem_append_right _ h0.2.2.1.2.1, List.mem_append_right _ h0.2.2.1.2.2⟩, h0.2.2.2⟩
    · rcases List.mem_append.1 hb with hb | hb
      · right; simp at hb; omega
      · exact .inl hb
    · rcases List.mem_append.1 m with m | m
      · simp at m; omega
      · exact h0.2.2.1.1 m)
  rw [← hWc]
  clear hWc
  go_loopg [4, 5] n (fun gh u i wr => ∃ (k : Nat) (st' : List Hi) (H : List (Value × List Ve)), i = .int .i64 k ∧ k + gh = n ∧ Hid (wr.ownsRow w.heap.size 34 1 u k (H.map (·.1))) ∧ Hid (RA wr (ob u ++ S) r cb hb cc hc st') ∧ Hid (RelL t st k st' H) ∧ Hid (∀ p ∈ H, Ew wr (ob u ++ S) p.1 p.2) ∧ Hid (Fr [hb] w wr))
  case atStart => exact ⟨0, st, [], rfl, by omega, ho0, hRA0, ⟨rfl, fun _ _ => rfl, by simp, rfl, by simp⟩, (fun p hp => by simp at hp), Fr.of_ext hXc.out⟩
  case round =>
    clear ho0 hRA0 hXc hz1
    obtain ⟨k, st', H, rfl, hk, hu, hRA, hrl, hH, hF⟩ := hrel
    obtain ⟨wo, hwo⟩ : ∃ wo, wo = wr := ⟨_, rfl⟩
    subst hwo
    obtain ⟨UA, ucap, ue⟩ := own_form hu.out
    subst ue
    have hlen : st'.length = n := by rw [hrl.out.len, hn.out]
    have r1 := hRA.out.1.1.cell 1 rfl
    rw [hlen] at r1
    have hrl1 : r < wo.heap.size := block_lt_of_cell r1
    haveI : In r wo := ⟨hrl1⟩
    by_cases hkn : k < n
    · have hkI : (k : Int) < n := by omega
      have d1 : decide ((k : Int) < n) = true := decide_eq_true hkI
      obtain ⟨⟨c, v0, L⟩, hp⟩ : ∃ p, st[k]? = some p := ⟨_, List.getElem?_eq_getElem (by rw [← hn.out]; exact hkn)⟩
      have hp' : st'[k]? = some (c, v0, L) := by rw [hrl.out.rest k (Nat.le_refl _)]; exact hp
      have hLk := hLL.out _ (List.mem_of_getElem? hp)
      have hEw := hRA.out.2.1 _ (List.mem_of_getElem? hp')
      have k0 := hRA.out.hold hp'
      simp only at hLk hEw k0
      obtain ⟨VA, vcap, rfl, hvl, hvm, hat⟩ := ew_form hEw
      unfold maxLen at hvm
      have hbS := hide (show ∀ b, b ∈ ob (.slice UA k ucap) ++ S → b < wo.heap.size from fun b hb => by
        rcases List.mem_append.1 hb with hb | hb
        · exact (ob_ge hu.out b hb).2
        · exact Nat.lt_of_lt_of_le (hS.out b hb) hF.out.size)
      have hhbl2 : hb < wo.heap.size := block_lt_of_cell k0
      haveI : In hb wo := ⟨hhbl2⟩
      have hrows := hide hEw.2
      have hph := hide hp
      have hph' := hide hp'
      replace hat := hide hat
      replace hlen := hide hlen
      clear hp hp' hEw
      go_wp2_with fail
      obtain ⟨Wd, hWd⟩ : ∃ Wd, Wd = (wo.alloc (.cells #[] 44)).alloc (.cells #[] 44) := ⟨_, rfl⟩
      have hXd := hide (show Ext wo Wd by rw [hWd]; exact ((Ext.refl _).alloc _).alloc _)
      have o60 := hide (show OwnE Wd wo.heap.size (.slice (some ⟨wo.heap.size, 0, none⟩) 0 0) [] by rw [hWd]; exact own_ext (hlitE.out wo) ((Ext.refl _).alloc _))
      have o70 := hide (show OwnE Wd wo.heap.size (.slice (some ⟨wo.heap.size + 1, 0, none⟩) 0 0) [] by
        rw [hWd]
        have := hlitE.out (wo.alloc (.cells #[] 44))
        rw [World.size_alloc] at this
        exact own_base this (by omega))
      rw [← hWd]
      clear hWd
      go_loopg [6, 7, 8] L.length (fun gh x6 x7 i w2 => ∃ (j : Nat) (a1 a2 : List Ve), i = .int .i64 j ∧ j + gh = L.length ∧ OwnE w2 wo.heap.size x6 a1 ∧ OwnE w2 wo.heap.size x7 a2 ∧ a1.length ≤ j ∧ a2.length ≤ j ∧ Hid (a1 = (L.take j).filter (aheadV t)) ∧ Hid (a2 = (L.take j).filter fun x => !aheadV t x) ∧ Hid (PairD x6 x7) ∧ Ext wo w2)
      case atStart => exact ⟨0, [], [], rfl, by omega, o60.out, o70.out, Nat.le_refl _, Nat.le_refl _, (by show _ = _; simp), (by show _ = _; simp), (by intro g hg hg2; simp [Value.ownBlock] at hg hg2; omega), hXd.out⟩
      case round =>
        clear o60 o70 hXd
        obtain ⟨j, a1, a2, rfl, hj, ho1, ho2, hk1, hk2, ha1, ha2, hd, hX⟩ := hrel
        obtain ⟨C1, cap1, rfl⟩ := own_form ho1
        obtain ⟨C2, cap2, rfl⟩ := own_form ho2
        replace ho1 := hide ho1
        replace ho2 := hide ho2
        have q1 := cell_later hX r1
        have qk := cell_later hX k0
        have ql := block_lt_of_cell q1
        have qm := block_lt_of_cell qk
        haveI : In r wr := ⟨ql⟩
        haveI : In hb wr := ⟨qm⟩
        have hzX := hX.size
        by_cases hlt : j < L.length
        · obtain ⟨x, hx⟩ : ∃ x, L[j]? = some x := ⟨_, List.getElem?_eq_getElem hlt⟩
          obtain ⟨b, o, rfl, -, hbw, c0, c1, c2⟩ := hat.out j x hx
          have e0 := cell_later hX c0
          have e1 := cell_later hX c1
          have e2 := cell_later hX c2
          have hbr : b < wr.heap.size := block_lt_of_cell e0
          haveI : In b wr := ⟨hbr⟩
          have hltI : (j : Int) < L.length := by omega
          have hrw := Sl.ext (hrows.out x (List.mem_of_getElem? hx)) hX
          have hxx := hide hx
          obtain ⟨xv, xq, xa, xn⟩ := x
          simp only at e0 e1 e2 hrw
          obtain ⟨XA, xcap, rfl⟩ := rw_val hrw
          clear c0 c1 c2 hat hx hrows hrw
          by_cases hmx : xa < t
          · have d5 : decide (xa < t) = true := decide_eq_true hmx
            have hf1 := hide (filter_yes (p := aheadV t) hxx.out (by unfold aheadV ahT; exact d5))
            have hf2 := hide (filter_no (p := fun x => !aheadV t x) hxx.out (by unfold aheadV ahT; simp [hmx]))
            replace hmx := hide hmx
            go_wp2_with (at_builtin; (refine wpl_app tEdg rfl (.tmp 48) (.tmp 59) rfl rfl (own_ext ho1.out ((Ext.refl wr).alloc (.cells #[.slice XA xq.length xcap, .int .i64 xa, .int .i64 xn] 44))) rfl (src_sl Tryz.underlying34 (oneE_new (.slice XA xq.length xcap) xq (xa, xn) wr) (ec1_one rfl) (by omega)) (by unfold maxLen; omega) (by omega) (by simp only [World.size_alloc]; omega) ?_; intro v8 w8 ho8 hg8 hv8; have hXX := hide ((Ext.refl wr).alloc (.cells #[.slice XA xq.length xcap, .int .i64 xa, .int .i64 xn] 44)); have ht8 := hide (two_growA (own_ext ho1.out hXX.out) (own_ext ho2.out hXX.out) hd.out hg8 hv8); have hX8 := hide (ext_grown (hX.trans hXX.out) hg8 (fun q hq => (ho1.out.lt q hq).1))))
            go_roundg (L.length - (j + 1))
            case measure => omega
            case rel => exact ⟨j + 1, a1 ++ [(.slice XA xq.length xcap, xq, xa, xn)], a2, by go_num, by omega, own_appE (M := [(.slice XA xq.length xcap, xq, xa, xn)]) (by simpa [ec, ec1] using ho8), ht8.out.1, by rw [List.length_append, List.length_singleton]; omega, by omega, by show _ = _; rw [hf1.out, ha1.out], by show _ = _; rw [hf2.out, ha2.out], ht8.out.2, hX8.out⟩
          · have d5 : decide (xa < t) = false := decide_eq_false hmx
            have hf1 := hide (filter_no (p := aheadV t) hxx.out (by unfold aheadV ahT; exact d5))
            have hf2 := hide (filter_yes (p := fun x => !aheadV t x) hxx.out (by unfold aheadV ahT; simp [hmx]))
            replace hmx := hide hmx
            go_wp2_with (at_builtin; (refine wpl_app tEdg rfl (.tmp 61) (.tmp 72) rfl rfl (own_ext ho2.out ((Ext.refl wr).alloc (.cells #[.slice XA xq.length xcap, .int .i64 xa, .int .i64 xn] 44))) rfl (src_sl Tryz.underlying34 (oneE_new (.slice XA xq.length xcap) xq (xa, xn) wr) (ec1_one rfl) (by omega)) (by unfold maxLen; omega) (by omega) (by simp only [World.size_alloc]; omega) ?_; intro v8 w8 ho8 hg8 hv8; have hXX := hide ((Ext.refl wr).alloc (.cells #[.slice XA xq.length xcap, .int .i64 xa, .int .i64 xn] 44)); have ht8 := hide (two_growA (own_ext ho2.out hXX.out) (own_ext ho1.out hXX.out) hd.out.swap hg8 hv8); have hX8 := hide (ext_grown (hX.trans hXX.out) hg8 (fun q hq => (ho2.out.lt q hq).1))))
            go_roundg (L.length - (j + 1))
            case measure => omega
            case rel => exact ⟨j + 1, a1, a2 ++ [(.slice XA xq.length xcap, xq, xa, xn)], by go_num, by omega, ht8.out.1, own_appE (M := [(.slice XA xq.length xcap, xq, xa, xn)]) (by simpa [ec, ec1] using ho8), by omega, by rw [List.length_append, List.length_singleton]; omega, by show _ = _; rw [hf1.out, ha1.out], by show _ = _; rw [hf2.out, ha2.out], PairD.swap ht8.out.2, hX8.out⟩
        · have hj' : j = L.length := by omega
          have hge : (L.length : Int) ≤ j := by omega
          have d5 : decide ((j : Int) < L.length) = false := decide_eq_false (by omega)
          have h1 := ha1.out
          have h2 := ha2.out
          rw [List.take_of_length_le (by omega)] at h1 h2
          have hE1 : Ew wr (ob (.slice UA k ucap) ++ S) (.slice C1 a1.length cap1) a1 := ⟨Sl.own ho1.out hbS.out, fun p hp => by rw [h1] at hp; exact Sl.ext (hrows.out p (List.mem_filter.1 hp).1) hX⟩
          have hE2 : Ew wr (ob (.slice UA k ucap) ++ S) (.slice C2 a2.length cap2) a2 := ⟨Sl.own ho2.out hbS.out, fun p hp => by rw [h2] at hp; exact Sl.ext (hrows.out p (List.mem_filter.1 hp).1) hX⟩
          have hRA1 := hRA.out.ext hX
          have hfr := World.ownsRow.frozenAt hRA1.1.2.2 k
          have hRA2 := hRA1.setH hph'.out hE2
          have hFs := (Fr.refl [hb] wr).setCell ⟨hb, k, none⟩ (.slice C2 a2.length cap2) (.inl (by simp))
          have hmem : ∀ b, b ∈ [hb] → b ∈ ob (.slice UA k ucap) ++ S := fun b hb' => by
            rw [List.mem_singleton.1 hb']; exact hRA.out.2.2.1.2.2
          have hus : (wr.setCell ⟨hb, k, none⟩ (.slice C2 a2.length cap2)).ownsRow w.heap.size 34 1 (.slice UA k ucap) k (H.map (·.1)) := own_keepA (own_ext hu.out hX) fun g hg => Below.heap_setCell wr ⟨hb, k, none⟩ _ g (fun q => by have := (hu.out.lt g hg).1; simp only at q; omega)
          have hE1s := hE1.fr hFs hmem
          have hHs : ∀ p ∈ H, Ew (wr.setCell ⟨hb, k, none⟩ (.slice C2 a2.length cap2)) (ob (.slice UA k ucap) ++ S) p.1 p.2 := fun p hp => ((hH.out p hp).ext hX).fr hFs hmem
          have hFF := (hF.out.then (S' := []) (Fr.of_ext hX) (by simp)).trans hFs
          replace h1 := hide h1
          replace h2 := hide h2
          replace hRA2 := hide hRA2
          replace hus := hide hus
          replace hE1s := hide hE1s
          replace hHs := hide hHs
          replace hFF := hide hFF
          replace hj' := hide hj'
          have hzF := hF.out.size
          clear hE1 hE2 hRA1 hmem hFs ha1 ha2 hat hrows
          go_wp2_with (at_builtin; (refine wpl_app tEs rfl (.tmp 81) (.tmp 83) rfl rfl (own_ext hus.out ((Ext.refl _).alloc (.cells #[.slice C1 a1.length cap1] 34))) rfl (src_oneB Tryz.underlying29 _ (.slice C1 a1.length cap1) _ rfl _ (World.size_setCell ..)) (by unfold maxLen; omega) (by omega) (by simp only [World.size_alloc, World.size_setCell]; omega) ?_; intro v9 w9 ho9 hg9 hv9))
          go_roundg (n - (k + 1))
          case measure => omega
          case rel =>
            have hA := (Ext.refl (wr.setCell ⟨hb, k, none⟩ (.slice C2 a2.length cap2))).alloc (.cells #[.slice C1 a1.length cap1] 34)
            have n1 : cb ∉ ob (.slice UA k ucap) := fun m => by have := (ob_ge hu.out cb m).1; omega
            have n2 : hb ∉ ob (.slice UA k ucap) := fun m => by have := (ob_ge hu.out hb m).1; omega
            refine ⟨k + 1, st'.set k (c, .slice C2 a2.length cap2, a2), H ++ [(.slice C1 a1.length cap1, a1)], by go_num, by omega, ?_, (hRA2.out.ext hA).app hg9 hv9 n1 n2 ⟨hh.out.2.2.1.2.1, hh.out.2.2.1.2.2⟩, ?_, fun p hp => ?_, ?_⟩
            · rw [List.map_append]; exact ho9
            · rw [h1.out, h2.out]; exact hrl.out.step hph.out _ _
            · rcases List.mem_append.1 hp with hm | hm
              · exact Ew.appA ((hHs.out p hm).ext hA) hg9 hv9
              · obtain rfl := List.mem_singleton.1 hm; exact Ew.appA (hE1s.out.ext hA) hg9 hv9
            · exact Fr.grown (hFF.out.alloc _) hg9 (fun g hg => .inr (hu.out.lt g hg).1)
    · have hge : (n : Int) ≤ k := by omega
      have hkn2 : k = n := by omega
      have d1 : decide ((k : Int) < n) = false := decide_eq_false (by omega)
      replace hkn2 := hide hkn2
      go_wp2_with fail
      go_returns
      have hkl : k = st.length := by rw [hkn2.out, hn.out]
      have ho := hrl.out.open_
      have hs := hrl.out.sure
      rw [List.take_of_length_le (by rw [absX_len, hrl.out.len, hkl]; exact Nat.le_refl _), List.take_of_length_le (by rw [open_len, absX_len, hkl]; exact Nat.le_refl _)] at ho
      rw [List.take_of_length_le (by simp [sureX, hkl])] at hs
      have hsub : ∀ b, b ∈ S → b ∈ ob (.slice UA k ucap) ++ S := fun b hb => List.mem_append_right _ hb
      refine ⟨_, H, rfl, hs, ⟨?_, fun p hp => (hH.out p hp).less hsub⟩, ⟨st', ho, hRA.out.less hsub hh.out.2.2.1.2.1 hh.out.2.2.1.2.2⟩, hF.out⟩
      rw [hrl.out.hlen]
      exact Sl.own hu.out hS.out
end Go.Proofs.YtjmoifbajjemmaaGreat
