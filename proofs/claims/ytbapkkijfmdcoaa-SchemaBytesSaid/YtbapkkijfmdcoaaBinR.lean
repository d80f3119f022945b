/-
  A helper of ours: no claim of its own. Layer 3 (bin): the document's own reader.
-/
import Derived.Test.YtbapkkijfmdcoaaBinA
import Derived.Test.YtbapkkijfmdcoaaBinS
import Derived.WalkSpells
import Derived.Deep.LoopGhost
set_option linter.unusedVariables false
set_option linter.unusedSimpArgs false
namespace Go.Proofs.Ytbapkkijfmdcoaa
open Go.RowKit
attribute [local go_sem] GW.cell GW.frozen In.eq_true In.le_true In.ne In.ne' In.ne_add In.ne_add' In.lt_add Upto.le_true Upto.le_add Upto.lt_add
attribute [-go_sem] sliced
attribute [local go_sem] sliced_eq

/-- The document's reader at block b: what it has left, and its error. -/
def Qdr (w : World) (S : List Nat) (b : Nat) (st : List UInt8 × Int) : Prop :=
  b ∈ S ∧ (st.2 ≠ 0 → st.1 = []) ∧ ∃ v, Ob w b 57 [v, .int .i64 st.2] ∧ By w S v st.1

theorem qfail_c (S : List Nat) (b : Nat) (l : List UInt8) (e x : Int) (hx : x ≠ 0) (w : World) (h : Qdr w S b (l, e)) : Calls Try.prog 79 #[.pointer (some ⟨b, 0, none⟩), .int .i64 x] w fun r w' => r = .returned (.tuple #[]) ∧ Qdr w' S b ([], x) ∧ Fr [b] w w' := by
  obtain ⟨hb, hi, v, hO, hB⟩ := h
  have c0 := hO.cell 0 rfl
  have c1 := hO.cell 1 rfl
  have f0 := hO.free 0
  have f1 := hO.free 1
  replace hO := hide hO
  obtain ⟨A, cap, rfl, _⟩ := hB
  clear hi
  go_enter Try.func79, Try.ntmps79
  go_wp2_with fail
  go_returns
  refine ⟨rfl, ⟨hb, fun _ => rfl, _, (hO.out.set 1 _).set 0 _, Sl.nil _ _ _⟩, ((Fr.refl [b] w).setCell _ _ (.inl (by simp))).setCell _ _ (.inl (by simp))⟩

theorem qbyte_c (S : List Nat) (b : Nat) (l : List UInt8) (e : Int) (w : World) (h : Qdr w S b (l, e)) : Calls Try.prog 61 #[.pointer (some ⟨b, 0, none⟩)] w fun r w' => r = .returned (.int .u8 (byteVal l e).toNat) ∧ Qdr w' S b (byteSt l e) ∧ Fr [b] w w' := by
  have hQ := hide h
  obtain ⟨hb, hi, v, hO, hB⟩ := h
  have c0 := hO.cell 0 rfl
  have c1 := hO.cell 1 rfl
  have f0 := hO.free 0
  obtain ⟨A, cap, rfl, h1, h2, h3, h4⟩ := id hB
  by_cases he : e = 0
  · subst he
    rcases l with _ | ⟨c, r⟩
    · have e1 := hide (show byteVal [] 0 = 0 from rfl)
      have e2 := hide (show byteSt [] 0 = ([], 5) from rfl)
      clear hB h4 h3 hi
      go_enter Try.func61, Try.ntmps61
      go_wp2_with (go_at_call 79; refine (qfail_c S b [] 0 5 (by decide) _ hQ.out).mono ?_; rintro ee w1 ⟨rfl, hR1, hF1⟩)
      go_returns
      exact ⟨by rw [e1.out]; rfl, by rw [e2.out]; exact hR1, hF1⟩
    · have e1 := hide (show byteVal (c :: r) 0 = c from rfl)
      have e2 := hide (show byteSt (c :: r) 0 = (r, 0) by unfold byteSt; rw [if_pos rfl, if_neg (by simp)]; rfl)
      rcases h4 with h4 | ⟨g, o, rfl, hg, hc⟩
      · simp [bs] at h4
      have cc : w.cell? ⟨g, o, none⟩ = some (.int .u8 c.toNat) := hc 0 _ rfl
      have hcut := hB.cut 1 (r.length + 1) cap (by omega) (by simp) (by simpa using h1) (Nat.le_refl _)
      replace hO := hide hO
      replace hcut := hide hcut
      replace hi := hide hi
      clear hB h3 hc
      go_enter Try.func61, Try.ntmps61
      go_wp2_with fail
      go_returns
      refine ⟨by rw [e1.out]; rfl, ?_, (Fr.refl [b] w).setCell _ _ (.inl (by simp))⟩
      rw [e2.out]
      refine ⟨hb, by simp, _, hO.out.set 0 _, ?_⟩
      have := hcut.out
      rw [List.take_of_length_le (by simp [bs])] at this
      exact Sl.set this _ _ hb
  · obtain rfl : l = [] := hi he
    have e0 : (e != 0) = true := by simp [he]
    have e1 := hide (show byteVal [] e = 0 by unfold byteVal; rw [if_neg he])
    have e2 := hide (show byteSt [] e = ([], e) by unfold byteSt; rw [if_neg he])
    replace he := hide he
    clear hB h4 h3 hi
    go_enter Try.func61, Try.ntmps61
    go_wp2_with fail
    go_returns
    exact ⟨by rw [e1.out]; rfl, by rw [e2.out]; exact hQ.out, Fr.refl _ _⟩

def manyN (most : Nat) (l : List UInt8) : Nat := if parE most l = 0 then lead l + 1 else 0
theorem manyN_no {most : Nat} {l : List UInt8} (h : parE most l = 4 ∨ parE most l = 5) : manyN most l = 0 := by unfold manyN; rw [if_neg (by omega)]
set_option maxHeartbeats 2000000 in
set_option maxRecDepth 100000 in
theorem many_c (S : List Nat) (b : Nat) (l : List UInt8) (most : Nat) (hm : most = 9 ∨ most = 10) (w : World) (h : Qdr w S b (l, 0)) : Calls Try.prog 93 #[.pointer (some ⟨b, 0, none⟩), .int .i64 most] w fun r w' => r = .returned (.tuple #[.int .i64 (manyN most l), .int .i64 (parE most l)]) ∧ w = w' := by
  obtain ⟨hb, hi, v, hO, hB⟩ := h
  have c0 := hO.cell 0 rfl
  obtain ⟨A, cap, rfl, h1, h2, h3, h4⟩ := id hB
  have hml : most ≤ 10 := by omega
  replace hm := hide hm
  replace h1 : l.length ≤ cap := h1
  unfold maxLen at h2
  have hc : ∀ (k : Nat) (c : UInt8), l[k]? = some c → ∃ g o, A = some ⟨g, o, none⟩ ∧ w.cell? ⟨g, o + k, none⟩ = some (.int .u8 c.toNat) := by
    intro k c hk
    rcases h4 with h4 | ⟨g, o, e, _, hc⟩
    · have := congrArg List.length h4; simp [bs] at this; subst this; simp at hk
    · exact ⟨g, o, e, hc k _ (by simp only [bs, List.getElem?_map, hk]; rfl)⟩
  replace hc := hide hc
  clear hB h3 h4 hO hi
  go_enter Try.func93, Try.ntmps93
  go_wp2_with fail
  go_loop [6] (fun i => ∃ k : Nat, i = .int .i64 k ∧ k ≤ most ∧ Led l k) (fun i => most - (intOf i).toNat)
  case atStart => exact ⟨0, rfl, Nat.zero_le _, Led.zero l⟩
  case round =>
    obtain ⟨k, rfl, hk, hL⟩ := hrel
    by_cases hkm : k = most
    · have e1 := hide (par_most hL hkm)
      have e2 := hide (manyN_no (.inl e1.out))
      replace hkm : most ≤ k := by omega
      go_wp2_with fail
      go_returns
      exact ⟨by rw [e1.out, e2.out]; rfl, rfl⟩
    have hlt : k < most := by omega
    have hkl := hL.1
    by_cases hle : l.length = k
    · have e1 := hide (par_end hL hlt hle)
      have e2 := hide (manyN_no (.inr e1.out))
      replace hle : l.length ≤ k := by omega
      go_wp2_with fail
      go_returns
      exact ⟨by rw [e1.out, e2.out]; rfl, rfl⟩
    have hkl : k < l.length := by omega
    obtain ⟨c, hck⟩ : ∃ c, l[k]? = some c := ⟨_, List.getElem?_eq_getElem hkl⟩
    obtain ⟨g, o, rfl, cc⟩ := hc.out k c hck
    clear hkm hle
    have fin : (k = 9 ∧ 1 < c.toNat) ∨ (¬ (k = 9 ∧ 1 < c.toNat) ∧ 0 < k ∧ c.toNat = 0) → parE most l = 4 := by
      intro hx
      by_cases h128 : c.toNat < 128
      · rw [(par_at hL hlt hck h128).1]
        rcases hx with hx | ⟨hx, hy⟩
        · rw [if_pos hx]
        · rw [if_neg hx, if_pos hy]
      · have : Led l (k + 1) := hL.succ hck (by omega)
        exact par_most this (by have := hm.out; omega)
    by_cases h9 : k = 9 ∧ 1 < c.toNat
    · have e1 := hide (fin (.inl h9))
      have e2 := hide (manyN_no (.inl e1.out))
      have e9 : ((k : Int) == 9) = true := by simp; omega
      have hc1 : (1 : Int) < (c.toNat : Int) := by omega
      replace hck := hide hck
      clear fin h9
      go_wp2_with fail
      go_returns
      exact ⟨by rw [e1.out, e2.out]; rfl, rfl⟩
    have key : (((k : Int) == 9) = false) ∨ (((k : Int) == 9) = true ∧ (c.toNat : Int) ≤ 1) := by
      by_cases hk9 : k = 9
      · exact .inr ⟨by simp; omega, by omega⟩
      · exact .inl (by simp; omega)
    rcases key with e9 | ⟨e9, hc1⟩
    all_goals
      by_cases h128 : c.toNat < 128
      · by_cases hz : 0 < k ∧ c.toNat = 0
        · have e1 := hide (fin (.inr ⟨h9, hz⟩))
          have e2 := hide (manyN_no (.inl e1.out))
          obtain ⟨hz, hz0⟩ := hz
          replace hz0 : ((c.toNat : Int) == 0) = true := by simp [hz0]
          replace hck := hide hck
          clear fin h9
          go_wp2_with fail
          go_returns
          exact ⟨by rw [e1.out, e2.out]; rfl, rfl⟩
        · obtain ⟨e1, _⟩ := par_ok hL hlt hck h128 h9 hz
          have e2 := hide (show manyN most l = k + 1 by unfold manyN; rw [if_pos e1, (par_at hL hlt hck h128).2])
          replace e1 := hide e1
          replace hck := hide hck
          clear fin h9
          by_cases hk0 : 0 < k
          · have hz0 : ((c.toNat : Int) == 0) = false := by simp; omega
            clear hz
            go_wp2_with fail
            go_returns
            exact ⟨by rw [e1.out, e2.out]; rfl, rfl⟩
          · clear hz
            replace hk0 : k ≤ 0 := by omega
            go_wp2_with fail
            go_returns
            exact ⟨by rw [e1.out, e2.out]; rfl, rfl⟩
      · first
        | (exfalso; omega)
        | (have hS := hide (hL.succ hck (by omega))
           replace hck := hide hck
           replace h128 : 128 ≤ (c.toNat : Int) := by omega
           clear fin h9
           go_wp2_with fail
           go_round
           case rel => exact ⟨k + 1, by go_num, hlt, hS.out⟩
           case measure => simp [intOf]; omega)

theorem gval_from {l : List UInt8} {n k : Nat} {c : UInt8} (hk : k < n) (hc : l[k]? = some c) : gval ((l.take n).drop k) = c.toNat % 128 + 128 * gval ((l.take n).drop (k + 1)) := by
  have h : (l.take n)[k]? = some c := by rw [List.getElem?_take, if_pos hk]; exact hc
  have hl : k < (l.take n).length := by
    rcases Nat.lt_or_ge k (l.take n).length with h2 | h2
    · exact h2
    · rw [List.getElem?_eq_none h2] at h; cases h
  rw [List.drop_eq_getElem_cons hl]
  rw [List.getElem?_eq_getElem hl] at h
  cases h
  rfl
theorem gval_mono : ∀ (l : List UInt8) (k : Nat), gval (l.drop k) ≤ gval l
  | [], k => by simp
  | c :: r, 0 => by simp
  | c :: r, k + 1 => by have := gval_mono r k; simp only [List.drop_succ_cons, gval]; omega
set_option maxHeartbeats 2000000 in
set_option maxRecDepth 100000 in
theorem qgroups_c (S : List Nat) (b : Nat) (l : List UInt8) (e : Int) (most : Nat) (hm : most = 9 ∨ most = 10) (w : World) (h : Qdr w S b (l, e)) : Calls Try.prog 89 #[.pointer (some ⟨b, 0, none⟩), .int .i64 most] w fun r w' => r = .returned (.int .u64 (numVal most l e)) ∧ Qdr w' S b (numSt most l e) ∧ Fr [b] w w' := by
  have hQ := hide h
  obtain ⟨hb, hi, v, hO, hB⟩ := h
  have c0 := hO.cell 0 rfl
  have c1 := hO.cell 1 rfl
  have f0 := hO.free 0
  replace hO := hide hO
  obtain ⟨A, cap, rfl, h1, h2, h3, h4⟩ := id hB
  replace h1 : l.length ≤ cap := h1
  unfold maxLen at h2
  by_cases he : e = 0
  · subst he
    have e0 := hide (show numVal most l 0 = parV most l from rfl)
    have e3 := hide (show numSt most l 0 = (parR most l, parE most l) from rfl)
    by_cases hp : parE most l = 0
    · have hn := parE_ne hp
      have e1 := hide (show parV most l = gval (l.take (lead l + 1)) by unfold parV; rw [if_pos hp])
      have e2 := hide (show parR most l = l.drop (lead l + 1) by unfold parR; rw [if_pos hp])
      have hmn := hide (show manyN most l = lead l + 1 by unfold manyN; rw [if_pos hp])
      have hbd : (gval (l.take (lead l + 1)) : Int) ≤ 18446744073709551615 := by
        rw [← e1.out]
        rcases hm with rfl | rfl
        · have := parV_nine l; omega
        · exact parV_ten l
      obtain ⟨L, hL⟩ : ∃ L, L = lead l + 1 := ⟨_, rfl⟩
      rw [← hL] at hbd e1 e2 hmn
      have hL1 : L ≤ l.length := by omega
      have hL0 : 1 ≤ L := by omega
      have hL10 : L ≤ 10 := by omega
      have hc : ∀ (k : Nat) (c : UInt8), l[k]? = some c → ∃ g o, A = some ⟨g, o, none⟩ ∧ w.cell? ⟨g, o + k, none⟩ = some (.int .u8 c.toNat) := by
        intro k c hk
        rcases h4 with h4 | ⟨g, o, e, _, hc⟩
        · have := congrArg List.length h4; simp [bs] at this; subst this; simp at hk
        · exact ⟨g, o, e, hc k _ (by simp only [bs, List.getElem?_map, hk]; rfl)⟩
      replace hc := hide hc
      have hd := hB.cut L l.length cap hL1 (by simp) h1 (Nat.le_refl _)
      rw [sliced_eq, Nat.mul_one, Nat.mul_one, List.take_of_length_le (by simp [bs]), bs_drop] at hd
      have hd' : By w S (.slice (cutA A L cap 1) (l.length - L) (cap - L)) (l.drop L) := by unfold By; rw [List.length_drop]; exact hd
      replace hd := hide hd'
      have hnc : (L : Int) ≤ (l.length : Int) := by omega
      clear hB h3 h4 hi hd' hL hn
      replace hm := hide hm
      replace hp := hide hp
      go_enter Try.func89, Try.ntmps89
      go_wp2_with (go_at_call 93; refine (many_c S b l most hm.out _ hQ.out).mono ?_; rintro ee w1 ⟨rfl, rfl⟩; rw [hmn.out, hp.out])
      go_loop [7, 8] (fun x i => ∃ (k : Nat), i = .int .i64 ((k : Int) - 1) ∧ k ≤ L ∧ x = .int .u64 (gval ((l.take L).drop k))) (fun _ i => (intOf i + 1).toNat)
      case atStart => exact ⟨L, by go_num, Nat.le_refl _, by rw [List.drop_of_length_le (by simp; omega)]; rfl⟩
      case round =>
        obtain ⟨k, rfl, hk, rfl⟩ := hrel
        by_cases hk0 : k = 0
        · subst hk0
          go_wp2_with fail
          go_returns
          refine ⟨by rw [e0.out, e1.out]; rfl, ?_, (Fr.refl [b] w).setCell _ _ (.inl (by simp))⟩
          rw [e3.out, e2.out, hp.out]
          exact ⟨hb, by simp, _, hO.out.set 0 _, Sl.set hd.out _ _ hb⟩
        · obtain ⟨j, rfl⟩ : ∃ j, k = j + 1 := ⟨k - 1, by omega⟩
          obtain ⟨c, hck⟩ : ∃ c, l[j]? = some c := ⟨_, List.getElem?_eq_getElem (by omega)⟩
          obtain ⟨g, o, rfl, cc⟩ := hc.out j c hck
          have hgv := gval_from (n := L) (by omega) hck
          have hmo := gval_mono (l.take L) j
          have hb2 : (gval ((l.take L).drop (j + 1)) : Int) * 128 + (c.toNat : Int) % 128 ≤ 18446744073709551615 := by omega
          have heq := hide (show ((gval ((l.take L).drop (j + 1)) : Int) * 128 + (c.toNat : Int) % 128) = (gval ((l.take L).drop j) : Int) by omega)
          replace hgv := hide hgv
          replace hck := hide hck
          go_wp2_with fail
          go_round
          case rel => exact ⟨j, rfl, by omega, by rw [heq.out]⟩
          case measure => simp [intOf]
    · have e1 := hide (par_no hp)
      have hmn := hide (show manyN most l = 0 by unfold manyN; rw [if_neg hp])
      have hp1 : (parE most l != 0) = true := by simp [hp]
      replace hp := hide hp
      replace hm := hide hm
      clear hB h3 h4 hi
      go_enter Try.func89, Try.ntmps89
      go_wp2_with (first | (go_at_call 93; refine (many_c S b l most hm.out _ hQ.out).mono ?_; rintro ee w1 ⟨rfl, rfl⟩; rw [hmn.out]) | (go_at_call 79; refine (qfail_c S b l 0 _ hp.out _ hQ.out).mono ?_; rintro ee w2 ⟨rfl, hR2, hF2⟩))
      go_returns
      exact ⟨by rw [e0.out, e1.out.1]; rfl, by rw [e3.out, e1.out.2]; exact hR2, hF2⟩
  · obtain rfl : l = [] := hi he
    have e1 := hide (show numVal most [] e = 0 by unfold numVal; rw [if_neg he])
    have e2 := hide (show numSt most [] e = ([], e) by unfold numSt; rw [if_neg he])
    have e0 : (e != 0) = true := by simp [he]
    replace he := hide he
    clear hB h4 h3 hi hm
    go_enter Try.func89, Try.ntmps89
    go_wp2_with fail
    go_returns
    exact ⟨by rw [e1.out]; rfl, by rw [e2.out]; exact hQ.out, Fr.refl _ _⟩

theorem numVal_in (most : Nat) (hm : most = 9 ∨ most = 10) (l : List UInt8) (e : Int) : (numVal most l e : Int) ≤ 18446744073709551615 ∧ (most = 9 → (numVal most l e : Int) ≤ 9223372036854775807) := by
  unfold numVal
  split
  · rcases hm with rfl | rfl
    · have := parV_nine l; exact ⟨by omega, fun _ => this⟩
    · exact ⟨parV_ten l, fun h => absurd h (by decide)⟩
  · exact ⟨by decide, fun _ => by decide⟩
theorem qnum_c (S : List Nat) (b : Nat) (l : List UInt8) (e : Int) (w : World) (h : Qdr w S b (l, e)) : Calls Try.prog 80 #[.pointer (some ⟨b, 0, none⟩)] w fun r w' => r = .returned (.int .i64 (numVal 9 l e)) ∧ Qdr w' S b (numSt 9 l e) ∧ Fr [b] w w' := by
  have hv := (numVal_in 9 (.inl rfl) l e).2 rfl
  go_enter Try.func80, Try.ntmps80
  go_wp2_with (go_at_call 89; refine (qgroups_c S b l e 9 (.inl rfl) _ h).mono ?_; rintro ee w1 ⟨rfl, hR1, hF1⟩)
  go_returns
  exact ⟨rfl, hR1, hF1⟩
theorem Qdr.lay {w : World} {S : List Nat} {b : Nat} {l : List UInt8} {e : Int} (h : Qdr w S b (l, e)) : ∃ A cap, w.cell? ⟨b, 0, none⟩ = some (.slice A l.length cap) ∧ w.cell? ⟨b, 1, none⟩ = some (.int .i64 e) ∧ w.frozen? ⟨b, 0, none⟩ = false ∧ l.length ≤ cap ∧ cap ≤ 9223372036854775807 := by
  obtain ⟨hb, hi, v, hO, A, cap, rfl, h1, h2, h3, h4⟩ := h
  exact ⟨A, cap, hO.cell 0 rfl, hO.cell 1 rfl, hO.free 0, h1, h2⟩
theorem Qdr.layN {w : World} {S : List Nat} {b : Nat} {l : List UInt8} {e : Int} (h : Qdr w S b (l, e)) (n : Nat) (hn : n ≤ l.length) : ∃ A cap, w.cell? ⟨b, 0, none⟩ = some (.slice A l.length cap) ∧ w.cell? ⟨b, 1, none⟩ = some (.int .i64 e) ∧ w.frozen? ⟨b, 0, none⟩ = false ∧ l.length ≤ cap ∧ cap ≤ 9223372036854775807 ∧ ((n : Int) ≤ (cap : Int)) ∧
    (convert 47 9 (.slice (cutA A 0 cap 1) n cap)).run Try.prog w = .ok (.string ⟨(l.take n).toArray⟩) w ∧ Hid (Qdr (w.setCell ⟨b, 0, none⟩ (.slice (cutA A n cap 1) (l.length - n) (cap - n))) S b (l.drop n, e)) := by
  obtain ⟨hb, hi, v, hO, hB⟩ := h
  obtain ⟨A, cap, rfl, h1, h2, h3, h4⟩ := id hB
  replace h1 : l.length ≤ cap := h1
  have ht := hB.cut 0 n cap (by omega) (by simpa using hn) (by omega) (Nat.le_refl _)
  have hd := hB.cut n l.length cap (by simpa using hn) (by simp) (by simpa using h1) (Nat.le_refl _)
  rw [sliced_eq, Nat.zero_mul, List.drop_zero, Nat.mul_one, bs_take, Nat.sub_zero, Nat.sub_zero] at ht
  rw [sliced_eq, Nat.mul_one, Nat.mul_one, List.take_of_length_le (by simp [bs]), bs_drop] at hd
  have ht' : By w S (.slice (cutA A 0 cap 1) n cap) (l.take n) := by unfold By; rw [List.length_take, Nat.min_eq_left hn]; exact ht
  have hd' : By w S (.slice (cutA A n cap 1) (l.length - n) (cap - n)) (l.drop n) := by unfold By; rw [List.length_drop]; exact hd
  refine ⟨A, cap, hO.cell 0 rfl, hO.cell 1 rfl, hO.free 0, h1, h2, by omega, run_str Try.underlying47 Try.underlying5 Try.underlying9 ht', hb, fun he => ?_, _, hO.set 0 _, Sl.set hd' _ _ hb⟩
  have h := hi he
  show l.drop n = []
  rw [show l = [] from h]; simp
set_option maxRecDepth 100000 in
theorem qtext_c (S : List Nat) (b : Nat) (l : List UInt8) (e most : Int) (w : World) (h : Qdr w S b (l, e)) : Calls Try.prog 62 #[.pointer (some ⟨b, 0, none⟩), .int .i64 most] w fun r w' => r = .returned (.string ⟨(textVal most l e).toArray⟩) ∧ Qdr w' S b (textSt most l e) ∧ Fr [b] w w' := by
  rcases hst : numSt 9 l e with ⟨l1, e1⟩
  have hst0 := hst
  by_cases he : e1 = 0
  · subst he
    by_cases hm : most < numVal 9 l e
    · have ht := hide (text_long (most := most) hst hm)
      rw [failSt_new _ (by decide)] at ht
      clear hst0
      replace hst := hide hst
      go_enter Try.func62, Try.ntmps62
      go_wp2_with (first | (go_at_call 80; refine (qnum_c S b l e _ h).mono ?_; rintro ee w1 ⟨rfl, hR1, hF1⟩; rw [hst.out] at hR1; obtain ⟨A, cap, c0, c1, f0, hlc, hcm⟩ := hR1.lay) | (go_at_call 79; refine (qfail_c S b _ _ _ (by decide) _ hR1).mono ?_; rintro ee w2 ⟨rfl, hR2, hF2⟩))
      go_returns
      exact ⟨by rw [ht.out.2]; rfl, by rw [ht.out.1]; exact hR2, hF1.trans hF2⟩
    by_cases hl : l1.length < numVal 9 l e
    · have ht := hide (text_end (most := most) hst hm hl)
      rw [failSt_new _ (by decide)] at ht
      clear hst0
      replace hst := hide hst
      go_enter Try.func62, Try.ntmps62
      go_wp2_with (first | (go_at_call 80; refine (qnum_c S b l e _ h).mono ?_; rintro ee w1 ⟨rfl, hR1, hF1⟩; rw [hst.out] at hR1; obtain ⟨A, cap, c0, c1, f0, hlc, hcm⟩ := hR1.lay) | (go_at_call 79; refine (qfail_c S b _ _ _ (by decide) _ hR1).mono ?_; rintro ee w2 ⟨rfl, hR2, hF2⟩))
      go_returns
      exact ⟨by rw [ht.out.2]; rfl, by rw [ht.out.1]; exact hR2, hF1.trans hF2⟩
    have ht := hide (text_ok (most := most) hst hm hl)
    clear hst0
    replace hst := hide hst
    replace hl : numVal 9 l e ≤ l1.length := by omega
    go_enter Try.func62, Try.ntmps62
    go_wp2_with (first | (go_at_call 80; refine (qnum_c S b l e _ h).mono ?_; rintro ee w1 ⟨rfl, hR1, hF1⟩; rw [hst.out] at hR1; obtain ⟨A, cap, c0, c1, f0, hlc, hcm, hnc, hcv, hend⟩ := hR1.layN _ hl))
    go_returns
    exact ⟨by rw [ht.out.2]; rfl, by rw [ht.out.1]; exact hend.out, hF1.setCell _ _ (.inl (by simp))⟩
  · have ht := hide (text_dead (most := most) hst he)
    have e0 : (e1 != 0) = true := by simp [he]
    clear hst0
    replace hst := hide hst
    replace he := hide he
    go_enter Try.func62, Try.ntmps62
    go_wp2_with (first | (go_at_call 80; refine (qnum_c S b l e _ h).mono ?_; rintro ee w1 ⟨rfl, hR1, hF1⟩; rw [hst.out] at hR1; obtain ⟨A, cap, c0, c1, f0, hlc, hcm⟩ := hR1.lay))
    go_returns
    exact ⟨by rw [ht.out.2]; rfl, by rw [ht.out.1]; exact hR1, hF1⟩
end Go.Proofs.Ytbapkkijfmdcoaa
