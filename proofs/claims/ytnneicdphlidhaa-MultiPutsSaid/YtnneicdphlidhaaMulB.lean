/-
  A helper of ours: no claim of its own. Layer 24 (multi): the library's search, as the code calls it; find.
-/
import Derived.Test.YtnneicdphlidhaaMulA
set_option linter.unusedVariables false
set_option linter.unusedSimpArgs false
namespace Go.Proofs.Ytnneicdphlidhaa
open Go.RowKit
attribute [local go_sem] GW.cell GW.frozen In.eq_true In.le_true In.ne In.ne' In.ne_add In.ne_add' In.lt_add Upto.le_true Upto.le_add Upto.lt_add
theorem half_is {i j : Nat} (h : i + j ≤ 4294967296) : IntKind.i64.wrap (IntKind.u64.wrap ((i : Int) + (j : Int)) / 2) = (((i + j) / 2 : Nat) : Int) := by
  rw [IntKind.wrap_i64, show IntKind.u64.wrap ((i : Int) + j) = ((i : Int) + j) % 18446744073709551616 by simp [IntKind.wrap, IntKind.bits, IntKind.signed]]
  omega
set_option maxHeartbeats 4000000 in
set_option maxRecDepth 100000 in
theorem msearch_c (k : Int) (l : List Tg) (hr : RiseT l) (hl : l.length ≤ 1048576) (base bx b : Nat) (v : Value) (c : Int) (w : World) (hb : Ob w bx 24 [.pointer (some ⟨b, 0, none⟩)]) (hm : Mu w base b v l c) :
    Calls Try.prog 40 #[v, .int .i64 k, .func (.func 41) #[] #[.pointer (some ⟨bx, 0, none⟩)]] w fun e w' => e = .returned (.tuple #[.int .i64 (ltN k l), .bool (fdB k l)]) ∧ Ext w w' := by
  have hcl := hide (fun (i : Nat) (p : Tg) (hp : l[i]? = some p) w' (hX : Ext w w') => mfind1_c p.1 p.2 k bx b v c w' (hb.ext hX) (hm.ext hX).ob)
  obtain ⟨A, cap, rfl⟩ := own_form hm.own
  obtain ⟨n, hn⟩ : ∃ n, n = l.length := ⟨_, rfl⟩
  have hmh := hide hm
  have hrh := hide hr
  clear hb hm hr
  go_enter Try.func40, Try.ntmps40
  go_wp2_with fail
  go_loopg [9, 10, 11] l.length (fun gh iv jv hv wr => ∃ (i j : Nat), iv = .int .i64 i ∧ jv = .int .i64 j ∧ i ≤ j ∧ j ≤ l.length ∧ j - i ≤ gh ∧ Hid (∀ t p, l[t]? = some p → t < i → p.1 < k) ∧ Hid (∀ t p, l[t]? = some p → j ≤ t → k ≤ p.1) ∧ Hid (Ext w wr))
  case atStart => exact ⟨0, l.length, rfl, rfl, by omega, by omega, by omega, (fun t p hp ht => by omega), (fun t p hp ht => by have := (List.getElem?_eq_some_iff.1 hp).1; omega), Ext.refl w⟩
  case round =>
    obtain ⟨i, j, rfl, rfl, hij, hjl, hgh, h1, h2, hX⟩ := hrel
    by_cases hlt : i < j
    · have hltI : (i : Int) < j := by omega
      obtain ⟨h, hh⟩ : ∃ h, h = (i + j) / 2 := ⟨_, rfl⟩
      have hhl : h < l.length := by omega
      have hhj : h < j := by omega
      have hih : i ≤ h := by omega
      obtain ⟨p, hp⟩ : ∃ p, l[h]? = some p := ⟨_, List.getElem?_eq_getElem hhl⟩
      obtain ⟨g, cap', e1, hgl, c0, c1⟩ := (hmh.out.ext hX.out).at hp
      cases e1
      haveI : In g wr := ⟨hgl⟩
      have hcp := hide (fun w' (hx : Ext wr w') => hcl.out h p hp w' (hX.out.trans hx))
      have hcmp : (cmpI p.1 k < 0) ↔ p.1 < k := cmpI_lt
      have hhI : ((i : Int) + j) / 2 < l.length := by omega
      have hh0 : (0 : Int) ≤ ((i : Int) + j) / 2 := by omega
      obtain ⟨R, hR⟩ : ∃ R, R = cmpI p.1 k := ⟨_, rfl⟩
      rw [← hR] at hcp hcmp
      replace hR := hide hR
      obtain ⟨pa, pn⟩ := p
      simp only at c0 c1 hcp hcmp
      rw [hh] at c0 c1
      have hhi : (h : Int) = ((i : Int) + j) / 2 := by omega
      replace hh := hide hh
      replace hhi := hide hhi
      by_cases hc : R < 0
      · have hpk := hcmp.1 hc
        have h1' : Hid (∀ t p, l[t]? = some p → t < h + 1 → p.1 < k) := fun t q hq ht => by
          rcases Nat.lt_or_ge t h with h3 | h3
          · have := rise_get hrh.out hq hp h3
            simp only at this
            omega
          · obtain rfl : t = h := by omega
            rw [hp] at hq; cases hq; exact hpk
        clear hp hcmp
        go_wp2_with (go_at_call 41; (with_reducible refine seq_gw (hcp.out _ (Ext.refl _)) ?_); intro g1)
        go_roundg (j - (h + 1))
        case measure => omega
        case rel => exact ⟨h + 1, j, by have := hhi.out; first | (congr 1; omega) | go_num, rfl, by omega, hjl, by omega, h1'.out, h2.out, hX.out.trans g1.grown⟩
      · have hpk : ¬ pa < k := fun q => hc (hcmp.2 q)
        have h2' : Hid (∀ t p, l[t]? = some p → h ≤ t → k ≤ p.1) := fun t q hq ht => by
          rcases Nat.lt_or_ge h t with h3 | h3
          · have := rise_get hrh.out hp hq h3
            simp only at this
            omega
          · obtain rfl : t = h := by omega
            rw [hp] at hq; cases hq; simp only; omega
        clear hp hcmp
        go_wp2_with (go_at_call 41; (with_reducible refine seq_gw (hcp.out _ (Ext.refl _)) ?_); intro g1)
        go_roundg (h - i)
        case measure => omega
        case rel => exact ⟨i, h, rfl, by have := hhi.out; first | rfl | (congr 1; omega), by omega, by omega, by omega, h1.out, h2'.out, hX.out.trans g1.grown⟩
    · obtain rfl : i = j := by omega
      have hi := ltN_is hrh.out hjl h1.out h2.out
      have hfb : fdB k l = match l[i]? with | some p => decide (p.1 = k) | none => false := by unfold fdB; rw [hi]; rfl
      by_cases hil : i < l.length
      · obtain ⟨p, hp⟩ : ∃ p, l[i]? = some p := ⟨_, List.getElem?_eq_getElem hil⟩
        obtain ⟨g, cap', e1, hgl, c0, c1⟩ := (hmh.out.ext hX.out).at hp
        cases e1
        haveI : In g wr := ⟨hgl⟩
        have hcp := hide (fun w' (hx : Ext wr w') => hcl.out i p hp w' (hX.out.trans hx))
        have hilI : (i : Int) < l.length := by omega
        have hres : Value.tuple #[.int .i64 (ltN k l), .bool (fdB k l)] = .tuple #[.int .i64 i, .bool (cmpI p.1 k == 0)] := by
          have hcmp : (cmpI p.1 k == 0) = decide (p.1 = k) := by
            cases hq : decide (p.1 = k) with
            | true => rw [beq_iff_eq]; exact cmpI_eq.2 (of_decide_eq_true hq)
            | false => rw [beq_eq_false_iff_ne]; exact fun e => (of_decide_eq_false hq) (cmpI_eq.1 e)
          have hfb' : fdB k l = decide (p.1 = k) := by rw [hfb, hp]
          rw [hi, hfb', hcmp]
        obtain ⟨R, hR⟩ : ∃ R, R = cmpI p.1 k := ⟨_, rfl⟩
        rw [← hR] at hcp hres
        replace hR := hide hR
        replace hres := hide hres
        obtain ⟨pa, pn⟩ := p
        simp only at c0 c1 hcp
        clear hp hfb hi
        go_wp2_with (go_at_call 41; (with_reducible refine seq_gw (hcp.out _ (Ext.refl _)) ?_); intro g1)
        go_returns
        exact ⟨by rw [hres.out]; rfl, hX.out.trans g1.grown⟩
      · have hn0 : l[i]? = none := List.getElem?_eq_none (by omega)
        have hres : Value.tuple #[.int .i64 (ltN k l), .bool (fdB k l)] = .tuple #[.int .i64 i, .bool false] := by
          have hfb' : fdB k l = false := by rw [hfb, hn0]
          rw [hi, hfb']
        replace hres := hide hres
        have hge : (l.length : Int) ≤ i := by omega
        clear hn0 hfb hi
        go_wp2_with fail
        go_returns
        exact ⟨by rw [hres.out]; rfl, hX.out⟩
end Go.Proofs.Ytnneicdphlidhaa
