/-
  A helper of ours: no claim of its own. Layer 15 (queue): an item moves up, or down, to its place.
-/
import Derived.Test.YtjibolpegijhkaaQueB
set_option linter.unusedVariables false
set_option linter.unusedSimpArgs false
namespace Go.Proofs.Ytjibolpegijhkaa
open Go.RowKit
attribute [local go_sem] GW.cell GW.frozen In.eq_true In.le_true In.ne In.ne' In.ne_add In.ne_add' In.lt_add Upto.le_true Upto.le_add Upto.lt_add
theorem nw_lit1 (w : World) (a : Nat) (T : TypeId) : Nw (w.alloc (.cells #[.int .i64 (a : Int)] T)) [] (.slice (some ⟨w.heap.size, 0, none⟩) 1 1) [a] := by
  refine ⟨_, 1, rfl, by simp, by simp [maxLen], by simp [nc], .inr ⟨_, 0, rfl, by simp, fun j u hu => ?_⟩⟩
  have hh := (Ob.new w T [.int .i64 (a : Int)]).cell j (u := u) (by simpa [nc] using hu)
  rw [Nat.zero_add]; exact hh
theorem nw_lit2 (w : World) (a b : Nat) (T : TypeId) : Nw (w.alloc (.cells #[.int .i64 (a : Int), .int .i64 (b : Int)] T)) [] (.slice (some ⟨w.heap.size, 0, none⟩) 2 2) [a, b] := by
  refine ⟨_, 2, rfl, by simp, by simp [maxLen], by simp [nc], .inr ⟨_, 0, rfl, by simp, fun j u hu => ?_⟩⟩
  have hh := (Ob.new w T [.int .i64 (a : Int), .int .i64 (b : Int)]).cell j (u := u) (by simpa [nc] using hu)
  rw [Nat.zero_add]; exact hh
abbrev Tq : List TypeId := [47, 49]
theorem sink_ways {H : List It} {i : Nat} (h : HpDn H i) (hi : 0 < H.length → i < H.length) : aheadL H i [2 * i + 1, 2 * i + 2] = i ∧ Hp H ∨ (aheadL H i [2 * i + 1, 2 * i + 2] < H.length ∧ i < aheadL H i [2 * i + 1, 2 * i + 2] ∧ HpDn (swp H i (aheadL H i [2 * i + 1, 2 * i + 2])) (aheadL H i [2 * i + 1, 2 * i + 2])) := by
  have e : aheadL H i [2 * i + 1, 2 * i + 2] = aheadS H (aheadS H i (2 * i + 1)) (2 * i + 2) := rfl
  rw [e]
  by_cases h0 : H.length = 0
  · left
    rw [aheadS_no (by omega), aheadS_no (by omega)]
    exact ⟨rfl, fun j x y _ hx => by have := (List.getElem?_eq_some_iff.1 hx).1; omega⟩
  have hil := hi (by omega)
  obtain ⟨x, hx⟩ : ∃ x, H[i]? = some x := ⟨_, List.getElem?_eq_getElem hil⟩
  by_cases h1 : 2 * i + 1 < H.length
  · obtain ⟨y, hy⟩ : ∃ y, H[2 * i + 1]? = some y := ⟨_, List.getElem?_eq_getElem h1⟩
    rw [aheadS_yes hy hx]
    by_cases h2 : 2 * i + 2 < H.length
    · obtain ⟨z, hz⟩ : ∃ z, H[2 * i + 2]? = some z := ⟨_, List.getElem?_eq_getElem h2⟩
      have two : ∀ (d : Nat) (u : It), (d - 1) / 2 = i → 0 < d → H[d]? = some u → u = y ∨ u = z := fun d u hd h0 hu => by
        rcases (by omega : d = 2 * i + 1 ∨ d = 2 * i + 2) with rfl | rfl
        · rw [hy] at hu; cases hu; exact .inl rfl
        · rw [hz] at hu; cases hu; exact .inr rfl
      by_cases a1 : isA y x = true
      · rw [if_pos a1, aheadS_yes hz hy]
        by_cases a2 : isA z y = true
        · rw [if_pos a2]
          right
          refine ⟨h2, by omega, dn_step h (by omega) (by omega) hx hz ?_ ?_⟩
          · cases h3 : isA z x
            · have h5 := isA_asym a1
              have := isA_neg h3 h5
              rw [a2] at this; cases this
            · rfl
          · intro d u hd h0 hu
            rcases two d u hd h0 hu with rfl | rfl
            · exact isA_asym a2
            · exact isA_self _
        · rw [if_neg a2]
          right
          refine ⟨h1, by omega, dn_step h (by omega) (by omega) hx hy a1 ?_⟩
          intro d u hd h0 hu
          rcases two d u hd h0 hu with rfl | rfl
          · exact isA_self _
          · simpa using a2
      · rw [if_neg a1, aheadS_yes hz hx]
        by_cases a2 : isA z x = true
        · rw [if_pos a2]
          right
          refine ⟨h2, by omega, dn_step h (by omega) (by omega) hx hz a2 ?_⟩
          intro d u hd h0 hu
          rcases two d u hd h0 hu with rfl | rfl
          · exact isA_neg (by simpa using a1) (isA_asym a2)
          · exact isA_self _
        · rw [if_neg a2]
          left
          refine ⟨rfl, dn_stop h hx ?_ ?_⟩
          · intro u hu; rw [hy] at hu; cases hu; simpa using a1
          · intro u hu; rw [hz] at hu; cases hu; simpa using a2
    · rw [aheadS_no (by omega)]
      have one : ∀ (d : Nat) (u : It), (d - 1) / 2 = i → 0 < d → H[d]? = some u → u = y := fun d u hd h0 hu => by
        rcases (by omega : d = 2 * i + 1 ∨ d = 2 * i + 2) with rfl | rfl
        · rw [hy] at hu; cases hu; rfl
        · have := (List.getElem?_eq_some_iff.1 hu).1; omega
      by_cases a1 : isA y x = true
      · rw [if_pos a1]
        right
        refine ⟨h1, by omega, dn_step h (by omega) (by omega) hx hy a1 ?_⟩
        intro d u hd h0 hu
        rw [one d u hd h0 hu]; exact isA_self _
      · rw [if_neg a1]
        left
        refine ⟨rfl, dn_stop h hx ?_ ?_⟩
        · intro u hu; rw [hy] at hu; cases hu; simpa using a1
        · intro u hu; have := (List.getElem?_eq_some_iff.1 hu).1; omega
  · rw [aheadS_no (by omega), aheadS_no (by omega)]
    left
    refine ⟨rfl, dn_stop h hx ?_ ?_⟩
    · intro u hu; have := (List.getElem?_eq_some_iff.1 hu).1; omega
    · intro u hu; have := (List.getElem?_eq_some_iff.1 hu).1; omega
set_option maxHeartbeats 8000000 in
set_option maxRecDepth 100000 in
theorem rise_c (H : List It) (hH : H.length ≤ 1000000000) (q i : Nat) (hi0 : i < H.length) (hp : HpUp H i) (B : Nat) (v : Value) (n : Int) (w : World) (h : Qb w q v n) (hi : OwnI w B v H) (hq : B ≤ q) :
    Calls Try.prog 18 #[.pointer (some ⟨q, 0, none⟩), .int .i64 i] w fun e w' => e = .returned (.tuple #[]) ∧ ∃ H', Hp H' ∧ H'.Perm H ∧ Qb w' q v n ∧ OwnI w' B v H' ∧ Ft B Tq w w' := by
  obtain ⟨N, hN⟩ : ∃ N, N = H.length := ⟨_, rfl⟩
  have h0 := hide (show ∃ cur : List It, cur.length = N ∧ cur.Perm H ∧ HpUp cur i ∧ Qb w q v n ∧ OwnI w B v cur ∧ Ft B Tq w w from ⟨H, hN.symm, List.Perm.refl _, hp, h, hi, Ft.refl w⟩)
  rw [← hN] at hi0 hH
  clear h hi hp hN
  go_enter Try.func18, Try.ntmps18
  go_wp2_with fail
  go_loopg [1] i (fun gh iv wr => ∃ (k : Nat), iv = .int .i64 k ∧ gh = k ∧ k < N ∧ Hid (∃ cur : List It, cur.length = N ∧ cur.Perm H ∧ HpUp cur k ∧ Qb wr q v n ∧ OwnI wr B v cur ∧ Ft B Tq w wr))
  case atStart => exact ⟨i, rfl, rfl, hi0, h0⟩
  case round =>
    obtain ⟨k, rfl, hg, hk, hcur⟩ := hrel
    obtain ⟨cur, hl, hperm, hup, hQ, hO, hF⟩ := hcur.out
    clear hcur h0
    rcases k with _ | m
    · have hfin := hide (show ∃ H', Hp H' ∧ H'.Perm H ∧ Qb wr q v n ∧ OwnI wr B v H' ∧ Ft B Tq w wr from ⟨cur, up_zero hup, hperm, hQ, hO, hF⟩)
      clear hup hperm hQ hO hF
      go_wp2_with fail
      go_returns
      exact ⟨rfl, hfin.out⟩
    · obtain ⟨a, ha⟩ : ∃ a, a = m / 2 := ⟨_, rfl⟩
      have hdiv : ((m : Int) / 2) = (a : Int) := by omega
      have haN : a < N := by omega
      obtain ⟨x, hx⟩ : ∃ x, cur[m + 1]? = some x := ⟨_, List.getElem?_eq_getElem (by omega)⟩
      obtain ⟨y, hy⟩ : ∃ y, cur[a]? = some y := ⟨_, List.getElem?_eq_getElem (by omega)⟩
      have hpar : (m + 1 - 1) / 2 = a := by omega
      have hA := hide (fun w' (hX' : Ext wr w') z (hz : Nw w' [] z [a]) => ahead_c cur (by omega) q (m + 1) [a] (fun _ => by omega) B v n z w' (Ob.ext hQ hX') (own_ext hO hX') hz)
      have e1 : aheadL cur (m + 1) [a] = if isA y x = true then a else m + 1 := by show aheadS cur (m + 1) a = _; rw [aheadS_yes hy hx]
      rw [e1] at hA
      cases hc : isA y x
      · rw [hc, if_neg (by decide)] at hA
        have hS := hide (fun w' (hX' : Ext wr w') => swap_c cur (by omega) q (m + 1) a (by omega) (by omega) (by omega) B v n w' (Ob.ext hQ hX') (own_ext hO hX') hq)
        have hup2 := hide (up_step hup (by omega) hx (by rw [hpar]; exact hy) hc)
        rw [hpar] at hup2
        have hpm := hide ((swp_perm hx hy (by omega)).trans hperm)
        have hsl := hide (swp_length cur (m + 1) a)
        have hne : (((m : Int) + 1) == (a : Int)) = false := by rw [beq_eq_false_iff_ne]; omega
        have em : ((m + 1 : Nat) : Int) = (m : Int) + 1 := by omega
        simp only [em] at hA hS
        clear em
        have hF' := hide hF
        have hl' := hide hl
        clear hx hy hup hperm hQ hO hF e1 hc ha hpar hl
        generalize swp cur (m + 1) a = cur2 at *
        go_wp2_with (first | (go_at_call 21; (with_reducible refine seq_gw (hA.out _ ((Ext.refl _).alloc _) _ (nw_lit1 _ _ _)) ?_); intro g1) | (go_at_call 22; refine (hS.out _ (((Ext.refl _).alloc _).trans g1.grown)).mono ?_; rintro ee w2 ⟨rfl, hQ2, hO2, hF2⟩; replace hQ2 := hide hQ2; replace hO2 := hide hO2; replace hF2 := hide hF2))
        go_roundg a
        case measure => omega
        case rel => exact ⟨a, rfl, rfl, haN, cur2, by rw [hsl.out, hl'.out], hpm.out, hup2.out, hQ2.out, hO2.out, (hF'.out.trans (Ft.of_ext (((Ext.refl _).alloc _).trans g1.grown))).trans hF2.out⟩
      · rw [hc, if_pos rfl] at hA
        have em : ((m + 1 : Nat) : Int) = (m : Int) + 1 := by omega
        simp only [em] at hA
        clear em
        have hfin := hide (fun w' (hX' : Ext wr w') => show ∃ H', Hp H' ∧ H'.Perm H ∧ Qb w' q v n ∧ OwnI w' B v H' ∧ Ft B Tq w w' from ⟨cur, up_stop hup (by omega) hx (by rw [hpar]; exact hy) hc, hperm, Ob.ext hQ hX', own_ext hO hX', hF.trans (Ft.of_ext hX')⟩)
        clear hx hy hup hperm hQ hO hF e1 hc ha hpar hl
        go_wp2_with (go_at_call 21; (with_reducible refine seq_gw (hA.out _ ((Ext.refl _).alloc _) _ (nw_lit1 _ _ _)) ?_); intro g1)
        go_returns
        exact ⟨rfl, hfin.out _ (((Ext.refl _).alloc _).trans g1.grown)⟩
set_option maxHeartbeats 8000000 in
set_option maxRecDepth 100000 in
theorem sink_c (H : List It) (hH : H.length ≤ 1000000000) (q i : Nat) (hi0 : 0 < H.length → i < H.length) (hi9 : i ≤ 1000000000) (hp : HpDn H i) (B : Nat) (v : Value) (n : Int) (w : World) (h : Qb w q v n) (hi : OwnI w B v H) (hq : B ≤ q) :
    Calls Try.prog 23 #[.pointer (some ⟨q, 0, none⟩), .int .i64 i] w fun e w' => e = .returned (.tuple #[]) ∧ ∃ H', Hp H' ∧ H'.Perm H ∧ Qb w' q v n ∧ OwnI w' B v H' ∧ Ft B Tq w w' := by
  obtain ⟨N, hN⟩ : ∃ N, N = H.length := ⟨_, rfl⟩
  have h0 := hide (show ∃ cur : List It, cur.length = N ∧ cur.Perm H ∧ HpDn cur i ∧ Qb w q v n ∧ OwnI w B v cur ∧ Ft B Tq w w from ⟨H, hN.symm, List.Perm.refl _, hp, h, hi, Ft.refl w⟩)
  rw [← hN] at hi0 hH
  clear h hi hp hN
  go_enter Try.func23, Try.ntmps23
  go_wp2_with fail
  go_loopg [1] N (fun gh iv wr => ∃ (k : Nat), iv = .int .i64 k ∧ gh = N + i - k ∧ i ≤ k ∧ (0 < N → k < N) ∧ k ≤ 1000000000 ∧ Hid (∃ cur : List It, cur.length = N ∧ cur.Perm H ∧ HpDn cur k ∧ Qb wr q v n ∧ OwnI wr B v cur ∧ Ft B Tq w wr))
  case atStart => exact ⟨i, rfl, by omega, Nat.le_refl _, hi0, hi9, h0⟩
  case round =>
    obtain ⟨k, rfl, hg, hik, hk, hk9, hcur⟩ := hrel
    obtain ⟨cur, hl, hperm, hdn, hQ, hO, hF⟩ := hcur.out
    clear hcur h0
    have hA := hide (fun w' (hX' : Ext wr w') z (hz : Nw w' [] z [2 * k + 1, 2 * k + 2]) => ahead_c cur (by omega) q k [2 * k + 1, 2 * k + 2] (fun _ => by omega) B v n z w' (Ob.ext hQ hX') (own_ext hO hX') hz)
    have hlit := hide (fun w' T => nw_lit2 w' (2 * k + 1) (2 * k + 2) T)
    have ways := sink_ways hdn (by rw [hl]; exact hk)
    have ec1 : (((2 * k + 1 : Nat)) : Int) = 2 * (k : Int) + 1 := by omega
    have ec2 : (((2 * k + 2 : Nat)) : Int) = 2 * (k : Int) + 2 := by omega
    rw [ec1, ec2] at hlit
    generalize aheadL cur k [2 * k + 1, 2 * k + 2] = c at *
    rcases ways with ⟨rfl, hhp⟩ | ⟨hc1, hc2, hdn2⟩
    · have hfin := hide (fun w' (hX' : Ext wr w') => show ∃ H', Hp H' ∧ H'.Perm H ∧ Qb w' q v n ∧ OwnI w' B v H' ∧ Ft B Tq w w' from ⟨cur, hhp, hperm, Ob.ext hQ hX', own_ext hO hX', hF.trans (Ft.of_ext hX')⟩)
      clear hdn hperm hQ hO hF hhp hl ec1 ec2
      go_wp2_with (go_at_call 21; (with_reducible refine seq_gw (hA.out _ ((Ext.refl _).alloc _) _ (hlit.out _ _)) ?_); intro g1)
      go_returns
      exact ⟨rfl, hfin.out _ (((Ext.refl _).alloc _).trans g1.grown)⟩
    · obtain ⟨x, hx⟩ : ∃ x, cur[k]? = some x := ⟨_, List.getElem?_eq_getElem (by omega)⟩
      obtain ⟨y, hy⟩ : ∃ y, cur[c]? = some y := ⟨_, List.getElem?_eq_getElem hc1⟩
      have hS := hide (fun w' (hX' : Ext wr w') => swap_c cur (by omega) q k c (by omega) (by omega) (by omega) B v n w' (Ob.ext hQ hX') (own_ext hO hX') hq)
      have hpm := hide ((swp_perm hx hy (by omega)).trans hperm)
      have hsl := hide (swp_length cur k c)
      have hne : ((c : Int) == (k : Int)) = false := by rw [beq_eq_false_iff_ne]; omega
      have hcN : c < N := by omega
      have hF' := hide hF
      have hl' := hide hl
      replace hdn2 := hide hdn2
      clear hx hy hdn hperm hQ hO hF hl hc1 ec1 ec2
      generalize swp cur k c = cur2 at *
      go_wp2_with (first | (go_at_call 21; (with_reducible refine seq_gw (hA.out _ ((Ext.refl _).alloc _) _ (hlit.out _ _)) ?_); intro g1) | (go_at_call 22; refine (hS.out _ (((Ext.refl _).alloc _).trans g1.grown)).mono ?_; rintro ee w2 ⟨rfl, hQ2, hO2, hF2⟩; replace hQ2 := hide hQ2; replace hO2 := hide hO2; replace hF2 := hide hF2))
      go_roundg (N + i - c)
      case measure => omega
      case rel => exact ⟨c, rfl, rfl, by omega, fun _ => hcN, by omega, cur2, by rw [hsl.out, hl'.out], hpm.out, hdn2.out, hQ2.out, hO2.out, (hF'.out.trans (Ft.of_ext (((Ext.refl _).alloc _).trans g1.grown))).trans hF2.out⟩
end Go.Proofs.Ytjibolpegijhkaa
