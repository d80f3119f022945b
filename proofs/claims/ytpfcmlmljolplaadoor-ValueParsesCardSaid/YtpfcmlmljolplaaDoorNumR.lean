/-
  A helper of ours: no claim of its own. Layer 1 (num): reading numbers.
-/
import Derived.Test.YtpfcmlmljolplaaDoorNumB
import Derived.Test.YtpfcmlmljolplaaDoorNumS
import Derived.Lib.IndexBytes
import Derived.WalkSpells
set_option linter.unusedVariables false
set_option linter.unusedSimpArgs false
namespace Go.Proofs.YtpfcmlmljolplaaDoor
open Go.RowKit
attribute [local go_sem] GW.cell GW.frozen In.eq_true In.le_true In.ne In.ne' In.ne_add In.ne_add' In.lt_add Upto.le_true Upto.le_add Upto.lt_add okF_true okF_false ovE_true ovE_false

theorem digsB_take (l : List UInt8) (k : Nat) : (∀ j c, j < k → l[j]? = some c → isDig c) → digsB (l.take k) = true := by
  intro h
  unfold digsB
  rw [List.all_eq_true]
  intro c hc
  obtain ⟨j, hj⟩ := List.getElem?_of_mem hc
  rw [List.getElem?_take] at hj
  split at hj
  · exact decide_eq_true (h j c (by assumption) hj)
  · cases hj
theorem digsB_no {l : List UInt8} {k : Nat} {c : UInt8} (h : l[k]? = some c) (hc : ¬ isDig c) : digsB l = false := by
  unfold digsB
  cases e : l.all fun c => decide (isDig c)
  · rfl
  · have := List.all_eq_true.1 e c (List.mem_of_getElem? h)
    exact absurd (of_decide_eq_true this) hc
set_option maxHeartbeats 1000000 in
theorem allDigits_c (s : ByteArray) (hs : s.size ≤ 9223372036854775807) (w : World) : Calls Tryd.prog 30 #[.string s] w fun e w' => e = .returned (.bool (digsB s.data.toList)) ∧ w = w' := by
  have hsz : s.data.toList.length = s.size := by rw [Array.length_toList]; rfl
  go_enter Tryd.func30, Tryd.ntmps30
  go_wp2_with fail
  go_loop [6] (fun i => ∃ k : Nat, i = .int .i64 k ∧ k ≤ s.size ∧ Hid (∀ j c, j < k → s.data.toList[j]? = some c → isDig c)) (fun i => s.size - (intOf i).toNat)
  case atStart => exact ⟨0, rfl, Nat.zero_le _, fun j c h => absurd h (by omega)⟩
  case round =>
    obtain ⟨k, rfl, hk, hD⟩ := hrel
    by_cases hlt : k < s.size
    · obtain ⟨c, hc⟩ : ∃ c, c = s[k] := ⟨_, rfl⟩
      have hck : s.data.toList[k]? = some c := by rw [hc, List.getElem?_eq_getElem (by omega)]; rfl
      by_cases h1 : isDig c
      · have hD' : Hid (∀ j c, j < k + 1 → s.data.toList[j]? = some c → isDig c) := by
          intro j d hj hd
          rcases (by omega : j < k ∨ j = k) with h | rfl
          · exact hD.out j d h hd
          · rw [hck] at hd; cases hd; exact h1
        unfold isDig at h1
        obtain ⟨h2, h3⟩ := h1
        rw [hc] at h2 h3
        clear hc hck hsz
        go_wp2_with fail
        go_round
        case rel => exact ⟨k + 1, by go_num, hlt, hD'⟩
        case measure => simp [intOf]; omega
      · have e := hide (digsB_no hck h1)
        unfold isDig at h1
        rw [hc] at h1
        rcases (by omega : s[k].toNat < 48 ∨ 57 < s[k].toNat) with h2 | h2
        · clear hc hck hsz h1
          go_wp2_with fail
          go_returns
          exact ⟨by rw [e.out]; rfl, rfl⟩
        · clear hc hck hsz h1
          go_wp2_with fail
          go_returns
          exact ⟨by rw [e.out]; rfl, rfl⟩
    · have e := hide (show digsB s.data.toList = true by
        have := digsB_take s.data.toList k hD.out
        rwa [List.take_of_length_le (by omega)] at this)
      replace hlt : s.size ≤ k := by omega
      go_wp2_with fail
      go_returns
      exact ⟨by rw [e.out]; rfl, rfl⟩
theorem empty_iff (s : ByteArray) : s.toList.isEmpty = decide (s.size = 0) := by
  rw [Lib.toList_data, Bool.eq_iff_iff, List.isEmpty_iff, decide_eq_true_iff, ← List.length_eq_zero_iff, Array.length_toList]
  exact Iff.rfl
set_option maxHeartbeats 4000000 in
theorem isNumber_c (s : ByteArray) (hs : s.size ≤ 9223372036854775807) (w : World) : Calls Tryd.prog 24 #[.string s] w fun e w' => e = .returned (.bool (numF s.data.toList)) ∧ w = w' := by
  have hsz : s.data.toList.length = s.size := by rw [Array.length_toList]; rfl
  by_cases h0 : s.size = 0
  · have e := hide (show numF s.data.toList = false by rw [List.eq_nil_of_length_eq_zero (hsz.trans h0)]; rfl)
    have nE : s.toList = [] := by rw [Lib.toList_data]; exact List.eq_nil_of_length_eq_zero (hsz.trans h0)
    clear hsz
    replace h0 := hide h0
    go_enter Tryd.func24, Tryd.ntmps24
    go_wp2_with fail
    go_returns
    exact ⟨by rw [e.out]; rfl, rfl⟩
  have nE : s.toList.isEmpty = false := by rw [empty_iff, decide_eq_false h0]
  have hpos : 0 < s.size := by omega
  have hpi : (1 : Int) ≤ (s.size : Int) := by omega
  by_cases h1 : s[0].toNat = 45
  · have e45 : ((s[0].toNat : Int) == 45) = true := by rw [h1]; rfl
    have hneg : isNeg s.data.toList = true := by
      rcases h : s.data.toList with _ | ⟨c, r⟩
      · rw [h] at hsz; simp at hsz; omega
      · have hc : s.data.toList[0]? = some c := by rw [h]; rfl
        rw [List.getElem?_eq_getElem (by omega)] at hc
        have hc' : s[0] = c := Option.some.inj hc
        rw [hc'] at h1
        simp [isNeg, h1]
    obtain ⟨t, ht0⟩ : ∃ t, t = s.extract 1 s.size := ⟨_, rfl⟩
    have htd : t.data.toList = s.data.toList.tail := by rw [ht0, Lib.extract_to_end, List.drop_one]
    have htl : t.data.toList.length = t.size := by rw [Array.length_toList]; rfl
    have hb : bodyD s.data.toList = t.data.toList := by unfold bodyD; rw [hneg, htd]; rfl
    have hts : t.size = s.size - 1 := by rw [← htl, htd, List.length_tail, hsz]
    replace ht0 : s.extract 1 s.size = t := ht0.symm
    clear h1 h0 hneg htd
    by_cases h2 : t.size = 0
    · have e := hide (show numF s.data.toList = false by unfold numF; rw [hb, List.eq_nil_of_length_eq_zero (htl.trans h2)]; rfl)
      have tE : t.toList.isEmpty = true := by rw [empty_iff, decide_eq_true h2]
      clear hb htl hsz hts
      replace h2 := hide h2
      go_enter Tryd.func24, Tryd.ntmps24
      go_wp2_with fail
      go_returns
      exact ⟨by rw [e.out]; rfl, rfl⟩
    have tE : t.toList.isEmpty = false := by rw [empty_iff, decide_eq_false h2]
    have tpos : 0 < t.size := by omega
    obtain ⟨c, r, ht⟩ : ∃ c r, t.data.toList = c :: r := by
      rcases h : t.data.toList with _ | ⟨c, r⟩
      · rw [h] at htl; simp at htl; omega
      · exact ⟨c, r, rfl⟩
    have hc0 : t[0] = c := by
      have h : t.data.toList[0]? = some c := by rw [ht]; rfl
      rw [List.getElem?_eq_getElem (by rw [ht]; simp)] at h
      exact Option.some.inj h
    cases hd : digsB t.data.toList
    · have e := hide (show numF s.data.toList = false by unfold numF; rw [hb, hd]; simp)
      clear ht hc0
      go_enter Tryd.func24, Tryd.ntmps24
      go_wp2_with (go_at_call 30; refine (allDigits_c _ (by omega) _).mono ?_; rintro ee w1 ⟨rfl, rfl⟩; rw [hd])
      go_returns
      exact ⟨by rw [e.out]; rfl, rfl⟩
    by_cases h48 : c = 48
    · have e48 : ((t[0].toNat : Int) == 48) = true := by rw [hc0, h48]; rfl
      have e := hide (show numF s.data.toList = (s.toList == [48]) by unfold numF; rw [hb, hd, Lib.toList_data, Bool.eq_iff_iff]; simp [ht, h48])
      clear ht hc0 h48
      go_enter Tryd.func24, Tryd.ntmps24
      go_wp2_with (go_at_call 30; refine (allDigits_c _ (by omega) _).mono ?_; rintro ee w1 ⟨rfl, rfl⟩; rw [hd])
      go_returns
      exact ⟨by rw [e.out]; rfl, rfl⟩
    have e48 : ((t[0].toNat : Int) == 48) = false := by
      rw [hc0, beq_eq_false_iff_ne]
      intro h; exact h48 (UInt8.toNat_inj.1 (by have : c.toNat = 48 := by omega
                                                rw [this]; rfl))
    have e := hide (show numF s.data.toList = true by unfold numF; rw [hb, hd, ht]; simp [h48])
    clear ht hc0 h48
    go_enter Tryd.func24, Tryd.ntmps24
    go_wp2_with (go_at_call 30; refine (allDigits_c _ (by omega) _).mono ?_; rintro ee w1 ⟨rfl, rfl⟩; rw [hd])
    go_returns
    exact ⟨by rw [e.out]; rfl, rfl⟩
  · have e45 : ((s[0].toNat : Int) == 45) = false := by rw [beq_eq_false_iff_ne]; omega
    have hneg : isNeg s.data.toList = false := by
      rcases h : s.data.toList with _ | ⟨c, r⟩
      · rfl
      · have hc : s.data.toList[0]? = some c := by rw [h]; rfl
        rw [List.getElem?_eq_getElem (by omega)] at hc
        have hc' : s[0] = c := Option.some.inj hc
        rw [hc'] at h1
        simp [isNeg, h1]
    have hb : bodyD s.data.toList = s.data.toList := by unfold bodyD; rw [hneg]; rfl
    clear h1 h0 hneg
    obtain ⟨c, r, ht⟩ : ∃ c r, s.data.toList = c :: r := by
      rcases h : s.data.toList with _ | ⟨c, r⟩
      · rw [h] at hsz; simp at hsz; omega
      · exact ⟨c, r, rfl⟩
    have hc0 : s[0] = c := by
      have h : s.data.toList[0]? = some c := by rw [ht]; rfl
      rw [List.getElem?_eq_getElem (by rw [ht]; simp)] at h
      exact Option.some.inj h
    cases hd : digsB s.data.toList
    · have e := hide (show numF s.data.toList = false by unfold numF; rw [hb, hd]; simp)
      clear ht hc0
      go_enter Tryd.func24, Tryd.ntmps24
      go_wp2_with (go_at_call 30; refine (allDigits_c _ (by omega) _).mono ?_; rintro ee w1 ⟨rfl, rfl⟩; rw [hd])
      go_returns
      exact ⟨by rw [e.out]; rfl, rfl⟩
    by_cases h48 : c = 48
    · have e48 : ((s[0].toNat : Int) == 48) = true := by rw [hc0, h48]; rfl
      have e := hide (show numF s.data.toList = (s.toList == [48]) by unfold numF; rw [hb, hd, Lib.toList_data, Bool.eq_iff_iff]; simp [ht, h48])
      clear ht hc0 h48
      go_enter Tryd.func24, Tryd.ntmps24
      go_wp2_with (go_at_call 30; refine (allDigits_c _ (by omega) _).mono ?_; rintro ee w1 ⟨rfl, rfl⟩; rw [hd])
      go_returns
      exact ⟨by rw [e.out]; rfl, rfl⟩
    have e48 : ((s[0].toNat : Int) == 48) = false := by
      rw [hc0, beq_eq_false_iff_ne]
      intro h; exact h48 (UInt8.toNat_inj.1 (by have : c.toNat = 48 := by omega
                                                rw [this]; rfl))
    have e := hide (show numF s.data.toList = true by unfold numF; rw [hb, hd, ht]; simp [h48])
    clear ht hc0 h48
    go_enter Tryd.func24, Tryd.ntmps24
    go_wp2_with (go_at_call 30; refine (allDigits_c _ (by omega) _).mono ?_; rintro ee w1 ⟨rfl, rfl⟩; rw [hd])
    go_returns
    exact ⟨by rw [e.out]; rfl, rfl⟩
/-- The library's error of size stands in its variable. -/
def ErrR (w : World) : Prop := ∃ tp p, w.var? Tryd.prog "strconv.ErrRange" = some #[.iface tp p]
theorem readV_no {l : List UInt8} (h : readE l ≠ 0) : readV l = 0 := by unfold readV; rw [if_neg h]
theorem bytesWorld_ext (w : World) (e : TypeId) (t : ByteArray) : Ext w (Lib.bytesWorld w e t) := by
  refine ⟨rfl, rfl, rfl, ?_, fun k hk => Lib.bytesWorld_at_old w e t k hk⟩
  have : (Lib.bytesWorld w e t).heap.size = w.heap.size + 1 := by
    unfold Lib.bytesWorld World.freeze
    rw [if_neg (by decide)]
    show Array.size (Array.modify _ _ _) = _
    rw [Array.size_modify]
    exact Array.size_push ..
  omega
set_option maxHeartbeats 1000000 in
theorem read_c (s : ByteArray) (hs : s.size ≤ 140737488351232) (w : World) (hE : ErrR w) : Calls Tryd.prog 13 #[.string s] w fun e w' => e = .returned (.tuple #[.int .i64 (readV s.data.toList), .int .i64 (readE s.data.toList)]) ∧ Ext w w' := by
  have isn := hide (isNumber_c s (by omega))
  cases hF : numF s.data.toList
  · have e1 := hide (show readE s.data.toList = 4 by unfold readE; rw [hF]; rfl)
    have e2 := hide (readV_no (l := s.data.toList) (by rw [e1.out]; decide))
    replace hF := hide hF
    go_enter Tryd.func13, Tryd.ntmps13
    go_wp2_with (go_at_call 24; refine (isn.out _).mono ?_; rintro ee w1 ⟨rfl, rfl⟩; rw [hF.out])
    go_returns
    exact ⟨by rw [e1.out, e2.out]; rfl, Ext.refl _⟩
  · have hp := parse_num hF
    cases hr : inR (readVal s.data.toList)
    · rw [hr] at hp
      have e1 := hide (show readE s.data.toList = 10 by unfold readE; rw [hF, hr]; rfl)
      have e2 := hide (readV_no (l := s.data.toList) (by rw [e1.out]; decide))
      obtain ⟨tp, p, hv⟩ := hE
      replace hp := hide (show Lib.parseIntB 64 s.data.toList = .range from hp)
      replace hF := hide hF
      replace hv := hide hv
      clear hr
      go_enter Tryd.func13, Tryd.ntmps13
      go_wp2_with (first | (go_at_call 24; refine (isn.out _).mono ?_; rintro ee w1 ⟨rfl, rfl⟩; rw [hF.out]) | (go_at_call 25; refine (Tryd.strconv_ParseInt_10_at64_range_var s (by omega) hp.out tp p _ hv.out).mono ?_; rintro ee w2 ⟨N, rfl, _, _, hx⟩))
      go_returns
      exact ⟨by rw [e1.out, e2.out]; rfl, hx⟩
    · rw [hr] at hp
      have e1 := hide (show readE s.data.toList = 0 by unfold readE; rw [hF, hr]; rfl)
      have e2 := hide (show readV s.data.toList = readVal s.data.toList by unfold readV; rw [if_pos e1.out])
      replace hp := hide (show Lib.parseIntB 64 s.data.toList = .ok (readVal s.data.toList) from hp)
      replace hF := hide hF
      clear hr hE
      go_enter Tryd.func13, Tryd.ntmps13
      go_wp2_with (first | (go_at_call 24; refine (isn.out _).mono ?_; rintro ee w1 ⟨rfl, rfl⟩; rw [hF.out]) | (go_at_call 25; refine (Tryd.strconv_ParseInt_10_at64_ok s (by omega) _ hp.out _).mono ?_; rintro ee w2 ⟨rfl, hx⟩))
      go_returns
      refine ⟨by rw [e1.out, e2.out]; rfl, ?_⟩
      rcases hx with rfl | ⟨t, rfl⟩
      · exact Ext.refl _
      · exact bytesWorld_ext _ _ _
set_option maxHeartbeats 8000000 in
theorem refRead_c (s : ByteArray) (hs : s.size ≤ 140737488351232) (w : World) : Calls Tryd.prog 19 #[.string s] w fun e w' => e = .returned (.tuple #[.int .i64 (readV s.data.toList), .int .i64 (readE s.data.toList)]) ∧ Ext w w' := by
  have hsz : s.data.toList.length = s.size := by rw [Array.length_toList]; rfl
  by_cases h0 : s.size = 0
  · have e := hide (show numF s.data.toList = false by rw [List.eq_nil_of_length_eq_zero (hsz.trans h0)]; rfl)
    have e1 := hide (show readE s.data.toList = 4 by unfold readE; rw [e.out]; rfl)
    have e2 := hide (readV_no (l := s.data.toList) (by rw [e1.out]; decide))
    have nE : s.toList.isEmpty = true := by rw [empty_iff, decide_eq_true h0]
    clear hsz
    replace h0 : (s.size : Int) ≤ 0 := by omega
    go_enter Tryd.func19, Tryd.ntmps19
    go_wp2_with fail
    go_returns
    exact ⟨by rw [e1.out, e2.out]; rfl, Ext.refl _⟩
  have nE : s.toList.isEmpty = false := by rw [empty_iff, decide_eq_false h0]
  have hpos : 0 < s.size := by omega
  have hpi : (1 : Int) ≤ (s.size : Int) := by omega
  by_cases h1 : s[0].toNat = 45
  · have e45 : ((s[0].toNat : Int) == 45) = true := by rw [h1]; rfl
    have hneg : isNeg s.data.toList = true := by
      rcases h : s.data.toList with _ | ⟨c, r⟩
      · rw [h] at hsz; simp at hsz; omega
      · have hc : s.data.toList[0]? = some c := by rw [h]; rfl
        rw [List.getElem?_eq_getElem (by omega)] at hc
        have hc' : s[0] = c := Option.some.inj hc
        rw [hc'] at h1
        simp [isNeg, h1]
    obtain ⟨t, ht0⟩ : ∃ t, t = s.extract 1 s.size := ⟨_, rfl⟩
    have htd : t.data.toList = s.data.toList.tail := by rw [ht0, Lib.extract_to_end, List.drop_one]
    have htl : t.data.toList.length = t.size := by rw [Array.length_toList]; rfl
    have hb : bodyD s.data.toList = t.data.toList := by unfold bodyD; rw [hneg, htd]; rfl
    have hts : t.size = s.size - 1 := by rw [← htl, htd, List.length_tail, hsz]
    have hv : readVal s.data.toList = -(dval 0 t.data.toList : Int) := by unfold readVal; rw [if_pos hneg, hb]
    have htm : t.size ≤ 140737488351232 := by omega
    replace ht0 : s.extract 1 s.size = t := ht0.symm
    clear h1 h0 hneg htd hts hsz
    by_cases h2 : t.size = 0
    · have e := hide (show numF s.data.toList = false by unfold numF; rw [hb, List.eq_nil_of_length_eq_zero (htl.trans h2)]; rfl)
      have e1 := hide (show readE s.data.toList = 4 by unfold readE; rw [e.out]; rfl)
      have e2 := hide (readV_no (l := s.data.toList) (by rw [e1.out]; decide))
      have tE : t.toList.isEmpty = true := by rw [empty_iff, decide_eq_true h2]
      clear hb htl
      replace h2 := hide h2
      go_enter Tryd.func19, Tryd.ntmps19
      go_wp2_with fail
      go_returns
      exact ⟨by rw [e1.out, e2.out]; rfl, Ext.refl _⟩
    have tE : t.toList.isEmpty = false := by rw [empty_iff, decide_eq_false h2]
    have tpos : 0 < t.size := by omega
    clear h2
    obtain ⟨c, r, ht⟩ : ∃ c r, t.data.toList = c :: r := by
      rcases h : t.data.toList with _ | ⟨c, r⟩
      · rw [h] at htl; simp at htl; omega
      · exact ⟨c, r, rfl⟩
    have hc0 : t[0] = c := by
      have h : t.data.toList[0]? = some c := by rw [ht]; rfl
      rw [List.getElem?_eq_getElem (by rw [ht]; simp)] at h
      exact Option.some.inj h
    by_cases h48 : c = 48 ∧ s.data.toList ≠ [48]
    · have e48 : ((t[0].toNat : Int) == 48) = true := by rw [hc0, h48.1]; rfl
      have es : (s.toList == [48]) = false := by rw [Lib.toList_data, beq_eq_false_iff_ne]; exact h48.2
      have e := hide (show numF s.data.toList = false by
        have h2 := h48.2
        unfold numF; rw [hb, ht]; simp only [h48.1, decide_eq_false h2]; simp)
      have e1 := hide (show readE s.data.toList = 4 by unfold readE; rw [e.out]; rfl)
      have e2 := hide (readV_no (l := s.data.toList) (by rw [e1.out]; decide))
      clear ht hc0 h48
      go_enter Tryd.func19, Tryd.ntmps19
      go_wp2_with fail
      go_returns
      exact ⟨by rw [e1.out, e2.out]; rfl, Ext.refl _⟩
    have hform : (decide ((bodyD s.data.toList).headD 0 ≠ 48) || decide (s.data.toList = [48])) = true := by
      rw [hb, ht, Bool.or_eq_true]
      by_cases hc : c = 48
      · right
        by_cases hs48 : s.data.toList = [48]
        · exact decide_eq_true hs48
        · exact absurd ⟨hc, hs48⟩ h48
      · left; exact decide_eq_true hc
    have hnum := hide (show numF s.data.toList = digsB t.data.toList by unfold numF; rw [hform, hb, ht]; simp)
    have hes : ((t[0].toNat : Int) == 48) = true → (s.toList == [48]) = true := by
      intro h
      rw [beq_iff_eq, hc0] at h
      rw [Lib.toList_data, beq_iff_eq]
      by_cases hs48 : s.data.toList = [48]
      · exact hs48
      · exact absurd ⟨UInt8.toNat_inj.1 (by have : c.toNat = 48 := by omega
                                            rw [this]; rfl), hs48⟩ h48
    clear h48 hform ht hc0 hb
    replace htl := hide htl
    replace hv := hide hv
    cases e48 : ((t[0].toNat : Int) == 48)
    · clear hes
      go_enter Tryd.func19, Tryd.ntmps19
      go_wp2_with fail
      go_loop [6] (fun i => ∃ k : Nat, i = .int .i64 k ∧ k ≤ t.size ∧ Hid (∀ j c, j < k → t.data.toList[j]? = some c → isDig c)) (fun i => t.size - (intOf i).toNat)
      case atStart => exact ⟨0, rfl, Nat.zero_le _, fun j c h => absurd h (by omega)⟩
      case round =>
        obtain ⟨k, rfl, hk, hD⟩ := hrel
        by_cases hlt : k < t.size
        · obtain ⟨c, hc⟩ : ∃ c, c = t[k] := ⟨_, rfl⟩
          have hck : t.data.toList[k]? = some c := by rw [hc, List.getElem?_eq_getElem (by have := htl.out; omega)]; rfl
          by_cases h1 : isDig c
          · have hD' : Hid (∀ j c, j < k + 1 → t.data.toList[j]? = some c → isDig c) := by
              intro j d hj hd
              rcases (by omega : j < k ∨ j = k) with h | rfl
              · exact hD.out j d h hd
              · rw [hck] at hd; cases hd; exact h1
            unfold isDig at h1
            obtain ⟨h2, h3⟩ := h1
            rw [hc] at h2 h3
            clear hc hck
            go_wp2_with fail
            go_round
            case rel => exact ⟨k + 1, by go_num, hlt, hD'⟩
            case measure => simp [intOf]; omega
          · have e := hide (hnum.out.trans (digsB_no hck h1))
            have e1 := hide (show readE s.data.toList = 4 by unfold readE; rw [e.out]; rfl)
            have e2 := hide (readV_no (l := s.data.toList) (by rw [e1.out]; decide))
            unfold isDig at h1
            rw [hc] at h1
            rcases (by omega : t[k].toNat < 48 ∨ 57 < t[k].toNat) with h2 | h2
            all_goals
              clear hc hck h1
              go_wp2_with fail
              go_returns
              exact ⟨by rw [e1.out, e2.out]; rfl, Ext.refl _⟩
        · have hDig := hide (show ∀ (j : Nat) (hj : j < t.size), 48 ≤ t[j].toNat ∧ t[j].toNat ≤ 57 from fun j hj => hD.out j t[j] (by omega) (by rw [List.getElem?_eq_getElem (by have := htl.out; omega)]; rfl))
          have e := hide (hnum.out.trans (show digsB t.data.toList = true by
            have := digsB_take t.data.toList k hD.out
            rwa [List.take_of_length_le (by have := htl.out; omega)] at this))
          replace hlt : t.size ≤ k := by omega
          clear hD
          go_wp2_with fail
          clear hlt hk
          go_loopw [7, 8] (fun n i wr => ∃ (k : Nat) (N : Int), n = .int .i64 N ∧ i = .int .i64 k ∧ Hid (N = -(dval 0 (t.data.toList.take k) : Int)) ∧ k ≤ t.size ∧ (-9223372036854775808 ≤ N ∧ N ≤ 9223372036854775807) ∧ Ext w wr) (fun _ i _ => t.size - (intOf i).toNat)
          case atStart => exact ⟨0, 0, rfl, rfl, by rw [List.take_zero, dval_nil]; exact rfl, Nat.zero_le _, by omega, Ext.refl _⟩
          case round =>
            obtain ⟨k, N, rfl, rfl, hN, hk, hNI, hX⟩ := hrel
            by_cases hlt : k < t.size
            · obtain ⟨d1, d2⟩ := hDig.out k hlt
              have hck : t.data.toList[k]? = some t[k] := by rw [List.getElem?_eq_getElem (by have := htl.out; omega)]; rfl
              have hpre := dval_next (l := t.data.toList) (k := k) (by have := htl.out; omega)
              have hnx := dval_take hck
              have hpk := dval_prefix t.data.toList (k + 1)
              have hNN := hN.out
              have hvv := hv.out
              have hcI : -9223372036854775808 ≤ (t[k].toNat : Int) - 48 ∧ (t[k].toNat : Int) - 48 ≤ 9223372036854775807 := by omega
              by_cases m1' : -9223372036854775808 ≤ N * 10 ∧ N * 10 ≤ 9223372036854775807
              · have m1 := hide (inR_yes m1')
                have hMI := m1'
                have hN1 := hide (show N * 10 - ((t[k].toNat : Int) - 48) = -(dval 0 (t.data.toList.take (k + 1)) : Int) by omega)
                by_cases m2' : -9223372036854775808 ≤ N * 10 - ((t[k].toNat : Int) - 48) ∧ N * 10 - ((t[k].toNat : Int) - 48) ≤ 9223372036854775807
                · have m2 := hide (inR_yes m2')
                  clear hck hpre hnx hpk hNN hvv m1'
                  go_wp2_with (first | (go_at_call 26; (first | (with_reducible refine seq_gw' (refMul_c _ 10 hNI (by omega) _) ?_) | (with_reducible refine seq_gw (refMul_c _ 10 hNI (by omega) _) ?_)); intro g1; rw [m1.out]) | (go_at_call 27; (first | (with_reducible refine seq_gw' (refSub_c _ _ hMI hcI _) ?_) | (with_reducible refine seq_gw (refSub_c _ _ hMI hcI _) ?_)); intro g2; rw [m2.out]))
                  go_roundw
                  case rel => exact ⟨k + 1, _, rfl, by go_num, hN1.out, hlt, m2', ext_gw hX g2⟩
                  case measure => simp [intOf]; omega
                · have m2 := hide (inR_no m2')
                  have hV := inR_no (n := readVal s.data.toList) (by omega)
                  have e1 := hide (show readE s.data.toList = 10 by unfold readE; rw [e.out, hV]; rfl)
                  have e2 := hide (readV_no (l := s.data.toList) (by rw [e1.out]; decide))
                  clear hck hpre hnx hpk hNN hvv m1' m2' hV
                  go_wp2_with (first | (go_at_call 26; (first | (with_reducible refine seq_gw' (refMul_c _ 10 hNI (by omega) _) ?_) | (with_reducible refine seq_gw (refMul_c _ 10 hNI (by omega) _) ?_)); intro g1; rw [m1.out]) | (go_at_call 27; (first | (with_reducible refine seq_gw' (refSub_c _ _ hMI hcI _) ?_) | (with_reducible refine seq_gw (refSub_c _ _ hMI hcI _) ?_)); intro g2; rw [m2.out]))
                  go_returns
                  exact ⟨by rw [e1.out, e2.out]; rfl, ext_gw hX g2⟩
              · have m1 := hide (inR_no m1')
                have hV := inR_no (n := readVal s.data.toList) (by omega)
                have e1 := hide (show readE s.data.toList = 10 by unfold readE; rw [e.out, hV]; rfl)
                have e2 := hide (readV_no (l := s.data.toList) (by rw [e1.out]; decide))
                clear hck hpre hnx hpk hNN hvv m1' hV
                go_wp2_with (first | (go_at_call 26; (first | (with_reducible refine seq_gw' (refMul_c _ 10 hNI (by omega) _) ?_) | (with_reducible refine seq_gw (refMul_c _ 10 hNI (by omega) _) ?_)); intro g1; rw [m1.out]) | (go_at_call 27; (first | (with_reducible refine seq_gw' (refSub_c _ _ hMI hcI _) ?_) | (with_reducible refine seq_gw (refSub_c _ _ hMI hcI _) ?_)); intro g2; rw [m2.out]))
                go_returns
                exact ⟨by rw [e1.out, e2.out]; rfl, ext_gw hX g1⟩
            · have hNV : N = readVal s.data.toList := by
                rw [hN.out, hv.out, List.take_of_length_le (by have := htl.out; omega)]
              have e1 := hide (show readE s.data.toList = 0 by unfold readE; rw [e.out, inR_yes (hNV ▸ hNI)]; rfl)
              have e2 := hide (show readV s.data.toList = N by unfold readV; rw [if_pos e1.out, hNV])
              replace hlt : t.size ≤ k := by omega
              clear hNV
              go_wp2_with fail
              go_returns
              exact ⟨by rw [e1.out, e2.out]; rfl, hX⟩
    have es := hes e48
    clear hes
    go_enter Tryd.func19, Tryd.ntmps19
    go_wp2_with fail
    go_loop [6] (fun i => ∃ k : Nat, i = .int .i64 k ∧ k ≤ t.size ∧ Hid (∀ j c, j < k → t.data.toList[j]? = some c → isDig c)) (fun i => t.size - (intOf i).toNat)
    case atStart => exact ⟨0, rfl, Nat.zero_le _, fun j c h => absurd h (by omega)⟩
    case round =>
      obtain ⟨k, rfl, hk, hD⟩ := hrel
      by_cases hlt : k < t.size
      · obtain ⟨c, hc⟩ : ∃ c, c = t[k] := ⟨_, rfl⟩
        have hck : t.data.toList[k]? = some c := by rw [hc, List.getElem?_eq_getElem (by have := htl.out; omega)]; rfl
        by_cases h1 : isDig c
        · have hD' : Hid (∀ j c, j < k + 1 → t.data.toList[j]? = some c → isDig c) := by
            intro j d hj hd
            rcases (by omega : j < k ∨ j = k) with h | rfl
            · exact hD.out j d h hd
            · rw [hck] at hd; cases hd; exact h1
          unfold isDig at h1
          obtain ⟨h2, h3⟩ := h1
          rw [hc] at h2 h3
          clear hc hck
          go_wp2_with fail
          go_round
          case rel => exact ⟨k + 1, by go_num, hlt, hD'⟩
          case measure => simp [intOf]; omega
        · have e := hide (hnum.out.trans (digsB_no hck h1))
          have e1 := hide (show readE s.data.toList = 4 by unfold readE; rw [e.out]; rfl)
          have e2 := hide (readV_no (l := s.data.toList) (by rw [e1.out]; decide))
          unfold isDig at h1
          rw [hc] at h1
          rcases (by omega : t[k].toNat < 48 ∨ 57 < t[k].toNat) with h2 | h2
          all_goals
            clear hc hck h1
            go_wp2_with fail
            go_returns
            exact ⟨by rw [e1.out, e2.out]; rfl, Ext.refl _⟩
      · have hDig := hide (show ∀ (j : Nat) (hj : j < t.size), 48 ≤ t[j].toNat ∧ t[j].toNat ≤ 57 from fun j hj => hD.out j t[j] (by omega) (by rw [List.getElem?_eq_getElem (by have := htl.out; omega)]; rfl))
        have e := hide (hnum.out.trans (show digsB t.data.toList = true by
          have := digsB_take t.data.toList k hD.out
          rwa [List.take_of_length_le (by have := htl.out; omega)] at this))
        replace hlt : t.size ≤ k := by omega
        clear hD
        go_wp2_with fail
        clear hlt hk
        go_loopw [7, 8] (fun n i wr => ∃ (k : Nat) (N : Int), n = .int .i64 N ∧ i = .int .i64 k ∧ Hid (N = -(dval 0 (t.data.toList.take k) : Int)) ∧ k ≤ t.size ∧ (-9223372036854775808 ≤ N ∧ N ≤ 9223372036854775807) ∧ Ext w wr) (fun _ i _ => t.size - (intOf i).toNat)
        case atStart => exact ⟨0, 0, rfl, rfl, by rw [List.take_zero, dval_nil]; exact rfl, Nat.zero_le _, by omega, Ext.refl _⟩
        case round =>
          obtain ⟨k, N, rfl, rfl, hN, hk, hNI, hX⟩ := hrel
          by_cases hlt : k < t.size
          · obtain ⟨d1, d2⟩ := hDig.out k hlt
            have hck : t.data.toList[k]? = some t[k] := by rw [List.getElem?_eq_getElem (by have := htl.out; omega)]; rfl
            have hpre := dval_next (l := t.data.toList) (k := k) (by have := htl.out; omega)
            have hnx := dval_take hck
            have hpk := dval_prefix t.data.toList (k + 1)
            have hNN := hN.out
            have hvv := hv.out
            have hcI : -9223372036854775808 ≤ (t[k].toNat : Int) - 48 ∧ (t[k].toNat : Int) - 48 ≤ 9223372036854775807 := by omega
            by_cases m1' : -9223372036854775808 ≤ N * 10 ∧ N * 10 ≤ 9223372036854775807
            · have m1 := hide (inR_yes m1')
              have hMI := m1'
              have hN1 := hide (show N * 10 - ((t[k].toNat : Int) - 48) = -(dval 0 (t.data.toList.take (k + 1)) : Int) by omega)
              by_cases m2' : -9223372036854775808 ≤ N * 10 - ((t[k].toNat : Int) - 48) ∧ N * 10 - ((t[k].toNat : Int) - 48) ≤ 9223372036854775807
              · have m2 := hide (inR_yes m2')
                clear hck hpre hnx hpk hNN hvv m1'
                go_wp2_with (first | (go_at_call 26; (first | (with_reducible refine seq_gw' (refMul_c _ 10 hNI (by omega) _) ?_) | (with_reducible refine seq_gw (refMul_c _ 10 hNI (by omega) _) ?_)); intro g1; rw [m1.out]) | (go_at_call 27; (first | (with_reducible refine seq_gw' (refSub_c _ _ hMI hcI _) ?_) | (with_reducible refine seq_gw (refSub_c _ _ hMI hcI _) ?_)); intro g2; rw [m2.out]))
                go_roundw
                case rel => exact ⟨k + 1, _, rfl, by go_num, hN1.out, hlt, m2', ext_gw hX g2⟩
                case measure => simp [intOf]; omega
              · have m2 := hide (inR_no m2')
                have hV := inR_no (n := readVal s.data.toList) (by omega)
                have e1 := hide (show readE s.data.toList = 10 by unfold readE; rw [e.out, hV]; rfl)
                have e2 := hide (readV_no (l := s.data.toList) (by rw [e1.out]; decide))
                clear hck hpre hnx hpk hNN hvv m1' m2' hV
                go_wp2_with (first | (go_at_call 26; (first | (with_reducible refine seq_gw' (refMul_c _ 10 hNI (by omega) _) ?_) | (with_reducible refine seq_gw (refMul_c _ 10 hNI (by omega) _) ?_)); intro g1; rw [m1.out]) | (go_at_call 27; (first | (with_reducible refine seq_gw' (refSub_c _ _ hMI hcI _) ?_) | (with_reducible refine seq_gw (refSub_c _ _ hMI hcI _) ?_)); intro g2; rw [m2.out]))
                go_returns
                exact ⟨by rw [e1.out, e2.out]; rfl, ext_gw hX g2⟩
            · have m1 := hide (inR_no m1')
              have hV := inR_no (n := readVal s.data.toList) (by omega)
              have e1 := hide (show readE s.data.toList = 10 by unfold readE; rw [e.out, hV]; rfl)
              have e2 := hide (readV_no (l := s.data.toList) (by rw [e1.out]; decide))
              clear hck hpre hnx hpk hNN hvv m1' hV
              go_wp2_with (first | (go_at_call 26; (first | (with_reducible refine seq_gw' (refMul_c _ 10 hNI (by omega) _) ?_) | (with_reducible refine seq_gw (refMul_c _ 10 hNI (by omega) _) ?_)); intro g1; rw [m1.out]) | (go_at_call 27; (first | (with_reducible refine seq_gw' (refSub_c _ _ hMI hcI _) ?_) | (with_reducible refine seq_gw (refSub_c _ _ hMI hcI _) ?_)); intro g2; rw [m2.out]))
              go_returns
              exact ⟨by rw [e1.out, e2.out]; rfl, ext_gw hX g1⟩
          · have hNV : N = readVal s.data.toList := by
              rw [hN.out, hv.out, List.take_of_length_le (by have := htl.out; omega)]
            have e1 := hide (show readE s.data.toList = 0 by unfold readE; rw [e.out, inR_yes (hNV ▸ hNI)]; rfl)
            have e2 := hide (show readV s.data.toList = N by unfold readV; rw [if_pos e1.out, hNV])
            replace hlt : t.size ≤ k := by omega
            clear hNV
            go_wp2_with fail
            go_returns
            exact ⟨by rw [e1.out, e2.out]; rfl, hX⟩
  · have e45 : ((s[0].toNat : Int) == 45) = false := by rw [beq_eq_false_iff_ne]; omega
    have hneg : isNeg s.data.toList = false := by
      rcases h : s.data.toList with _ | ⟨c, r⟩
      · rfl
      · have hc : s.data.toList[0]? = some c := by rw [h]; rfl
        rw [List.getElem?_eq_getElem (by omega)] at hc
        have hc' : s[0] = c := Option.some.inj hc
        rw [hc'] at h1
        simp [isNeg, h1]
    have hb : bodyD s.data.toList = s.data.toList := by unfold bodyD; rw [hneg]; rfl
    have hv : readVal s.data.toList = (dval 0 s.data.toList : Int) := by unfold readVal; rw [hneg, hb]; rfl
    clear h1 h0 hneg
    obtain ⟨c, r, ht⟩ : ∃ c r, s.data.toList = c :: r := by
      rcases h : s.data.toList with _ | ⟨c, r⟩
      · rw [h] at hsz; simp at hsz; omega
      · exact ⟨c, r, rfl⟩
    have hc0 : s[0] = c := by
      have h : s.data.toList[0]? = some c := by rw [ht]; rfl
      rw [List.getElem?_eq_getElem (by rw [ht]; simp)] at h
      exact Option.some.inj h
    by_cases h48 : c = 48 ∧ s.data.toList ≠ [48]
    · have e48 : ((s[0].toNat : Int) == 48) = true := by rw [hc0, h48.1]; rfl
      have es : (s.toList == [48]) = false := by rw [Lib.toList_data, beq_eq_false_iff_ne]; exact h48.2
      have e := hide (show numF s.data.toList = false by
        have h2 := h48.2
        unfold numF; rw [hb, ht]; rw [ht, h48.1] at h2; simp only [h48.1, decide_eq_false h2]; simp)
      have e1 := hide (show readE s.data.toList = 4 by unfold readE; rw [e.out]; rfl)
      have e2 := hide (readV_no (l := s.data.toList) (by rw [e1.out]; decide))
      clear ht hc0 h48
      go_enter Tryd.func19, Tryd.ntmps19
      go_wp2_with fail
      go_returns
      exact ⟨by rw [e1.out, e2.out]; rfl, Ext.refl _⟩
    have hform : (decide ((bodyD s.data.toList).headD 0 ≠ 48) || decide (s.data.toList = [48])) = true := by
      rw [hb, ht, Bool.or_eq_true]
      by_cases hc : c = 48
      · right
        by_cases hs48 : s.data.toList = [48]
        · exact decide_eq_true (ht ▸ hs48)
        · exact absurd ⟨hc, hs48⟩ h48
      · left; exact decide_eq_true hc
    have hnum := hide (show numF s.data.toList = digsB s.data.toList by unfold numF; rw [hform, hb, ht]; simp)
    have hes : ((s[0].toNat : Int) == 48) = true → (s.toList == [48]) = true := by
      intro h
      rw [beq_iff_eq, hc0] at h
      rw [Lib.toList_data, beq_iff_eq]
      by_cases hs48 : s.data.toList = [48]
      · exact hs48
      · exact absurd ⟨UInt8.toNat_inj.1 (by have : c.toNat = 48 := by omega
                                            rw [this]; rfl), hs48⟩ h48
    clear h48 hform ht hc0 hb
    replace hsz := hide hsz
    replace hv := hide hv
    cases e48 : ((s[0].toNat : Int) == 48)
    · clear hes
      go_enter Tryd.func19, Tryd.ntmps19
      go_wp2_with fail
      go_loop [6] (fun i => ∃ k : Nat, i = .int .i64 k ∧ k ≤ s.size ∧ Hid (∀ j c, j < k → s.data.toList[j]? = some c → isDig c)) (fun i => s.size - (intOf i).toNat)
      case atStart => exact ⟨0, rfl, Nat.zero_le _, fun j c h => absurd h (by omega)⟩
      case round =>
        obtain ⟨k, rfl, hk, hD⟩ := hrel
        by_cases hlt : k < s.size
        · obtain ⟨c, hc⟩ : ∃ c, c = s[k] := ⟨_, rfl⟩
          have hck : s.data.toList[k]? = some c := by rw [hc, List.getElem?_eq_getElem (by have := hsz.out; omega)]; rfl
          by_cases h1 : isDig c
          · have hD' : Hid (∀ j c, j < k + 1 → s.data.toList[j]? = some c → isDig c) := by
              intro j d hj hd
              rcases (by omega : j < k ∨ j = k) with h | rfl
              · exact hD.out j d h hd
              · rw [hck] at hd; cases hd; exact h1
            unfold isDig at h1
            obtain ⟨h2, h3⟩ := h1
            rw [hc] at h2 h3
            clear hc hck
            go_wp2_with fail
            go_round
            case rel => exact ⟨k + 1, by go_num, hlt, hD'⟩
            case measure => simp [intOf]; omega
          · have e := hide (hnum.out.trans (digsB_no hck h1))
            have e1 := hide (show readE s.data.toList = 4 by unfold readE; rw [e.out]; rfl)
            have e2 := hide (readV_no (l := s.data.toList) (by rw [e1.out]; decide))
            unfold isDig at h1
            rw [hc] at h1
            rcases (by omega : s[k].toNat < 48 ∨ 57 < s[k].toNat) with h2 | h2
            all_goals
              clear hc hck h1
              go_wp2_with fail
              go_returns
              exact ⟨by rw [e1.out, e2.out]; rfl, Ext.refl _⟩
        · have hDig := hide (show ∀ (j : Nat) (hj : j < s.size), 48 ≤ s[j].toNat ∧ s[j].toNat ≤ 57 from fun j hj => hD.out j s[j] (by omega) (by rw [List.getElem?_eq_getElem (by have := hsz.out; omega)]; rfl))
          have e := hide (hnum.out.trans (show digsB s.data.toList = true by
            have := digsB_take s.data.toList k hD.out
            rwa [List.take_of_length_le (by have := hsz.out; omega)] at this))
          replace hlt : s.size ≤ k := by omega
          clear hD
          go_wp2_with fail
          clear hlt hk
          go_loopw [7, 8] (fun n i wr => ∃ (k : Nat) (N : Int), n = .int .i64 N ∧ i = .int .i64 k ∧ Hid (N = (dval 0 (s.data.toList.take k) : Int)) ∧ k ≤ s.size ∧ (-9223372036854775808 ≤ N ∧ N ≤ 9223372036854775807) ∧ Ext w wr) (fun _ i _ => s.size - (intOf i).toNat)
          case atStart => exact ⟨0, 0, rfl, rfl, by rw [List.take_zero, dval_nil]; exact rfl, Nat.zero_le _, by omega, Ext.refl _⟩
          case round =>
            obtain ⟨k, N, rfl, rfl, hN, hk, hNI, hX⟩ := hrel
            by_cases hlt : k < s.size
            · obtain ⟨d1, d2⟩ := hDig.out k hlt
              have hck : s.data.toList[k]? = some s[k] := by rw [List.getElem?_eq_getElem (by have := hsz.out; omega)]; rfl
              have hpre := dval_next (l := s.data.toList) (k := k) (by have := hsz.out; omega)
              have hnx := dval_take hck
              have hpk := dval_prefix s.data.toList (k + 1)
              have hNN := hN.out
              have hvv := hv.out
              have hcI : -9223372036854775808 ≤ (s[k].toNat : Int) - 48 ∧ (s[k].toNat : Int) - 48 ≤ 9223372036854775807 := by omega
              by_cases m1' : -9223372036854775808 ≤ N * 10 ∧ N * 10 ≤ 9223372036854775807
              · have m1 := hide (inR_yes m1')
                have hMI := m1'
                have hN1 := hide (show N * 10 + ((s[k].toNat : Int) - 48) = (dval 0 (s.data.toList.take (k + 1)) : Int) by omega)
                by_cases m2' : -9223372036854775808 ≤ N * 10 + ((s[k].toNat : Int) - 48) ∧ N * 10 + ((s[k].toNat : Int) - 48) ≤ 9223372036854775807
                · have m2 := hide (inR_yes m2')
                  clear hck hpre hnx hpk hNN hvv m1'
                  go_wp2_with (first | (go_at_call 26; (first | (with_reducible refine seq_gw' (refMul_c _ 10 hNI (by omega) _) ?_) | (with_reducible refine seq_gw (refMul_c _ 10 hNI (by omega) _) ?_)); intro g1; rw [m1.out]) | (go_at_call 28; (first | (with_reducible refine seq_gw' (refAdd_c _ _ hMI hcI _) ?_) | (with_reducible refine seq_gw (refAdd_c _ _ hMI hcI _) ?_)); intro g2; rw [m2.out]))
                  go_roundw
                  case rel => exact ⟨k + 1, _, rfl, by go_num, hN1.out, hlt, m2', ext_gw hX g2⟩
                  case measure => simp [intOf]; omega
                · have m2 := hide (inR_no m2')
                  have hV := inR_no (n := readVal s.data.toList) (by omega)
                  have e1 := hide (show readE s.data.toList = 10 by unfold readE; rw [e.out, hV]; rfl)
                  have e2 := hide (readV_no (l := s.data.toList) (by rw [e1.out]; decide))
                  clear hck hpre hnx hpk hNN hvv m1' m2' hV
                  go_wp2_with (first | (go_at_call 26; (first | (with_reducible refine seq_gw' (refMul_c _ 10 hNI (by omega) _) ?_) | (with_reducible refine seq_gw (refMul_c _ 10 hNI (by omega) _) ?_)); intro g1; rw [m1.out]) | (go_at_call 28; (first | (with_reducible refine seq_gw' (refAdd_c _ _ hMI hcI _) ?_) | (with_reducible refine seq_gw (refAdd_c _ _ hMI hcI _) ?_)); intro g2; rw [m2.out]))
                  go_returns
                  exact ⟨by rw [e1.out, e2.out]; rfl, ext_gw hX g2⟩
              · have m1 := hide (inR_no m1')
                have hV := inR_no (n := readVal s.data.toList) (by omega)
                have e1 := hide (show readE s.data.toList = 10 by unfold readE; rw [e.out, hV]; rfl)
                have e2 := hide (readV_no (l := s.data.toList) (by rw [e1.out]; decide))
                clear hck hpre hnx hpk hNN hvv m1' hV
                go_wp2_with (first | (go_at_call 26; (first | (with_reducible refine seq_gw' (refMul_c _ 10 hNI (by omega) _) ?_) | (with_reducible refine seq_gw (refMul_c _ 10 hNI (by omega) _) ?_)); intro g1; rw [m1.out]) | (go_at_call 28; (first | (with_reducible refine seq_gw' (refAdd_c _ _ hMI hcI _) ?_) | (with_reducible refine seq_gw (refAdd_c _ _ hMI hcI _) ?_)); intro g2; rw [m2.out]))
                go_returns
                exact ⟨by rw [e1.out, e2.out]; rfl, ext_gw hX g1⟩
            · have hNV : N = readVal s.data.toList := by
                rw [hN.out, hv.out, List.take_of_length_le (by have := hsz.out; omega)]
              have e1 := hide (show readE s.data.toList = 0 by unfold readE; rw [e.out, inR_yes (hNV ▸ hNI)]; rfl)
              have e2 := hide (show readV s.data.toList = N by unfold readV; rw [if_pos e1.out, hNV])
              replace hlt : s.size ≤ k := by omega
              clear hNV
              go_wp2_with fail
              go_returns
              exact ⟨by rw [e1.out, e2.out]; rfl, hX⟩
    have es := hes e48
    clear hes
    go_enter Tryd.func19, Tryd.ntmps19
    go_wp2_with fail
    go_loop [6] (fun i => ∃ k : Nat, i = .int .i64 k ∧ k ≤ s.size ∧ Hid (∀ j c, j < k → s.data.toList[j]? = some c → isDig c)) (fun i => s.size - (intOf i).toNat)
    case atStart => exact ⟨0, rfl, Nat.zero_le _, fun j c h => absurd h (by omega)⟩
    case round =>
      obtain ⟨k, rfl, hk, hD⟩ := hrel
      by_cases hlt : k < s.size
      · obtain ⟨c, hc⟩ : ∃ c, c = s[k] := ⟨_, rfl⟩
        have hck : s.data.toList[k]? = some c := by rw [hc, List.getElem?_eq_getElem (by have := hsz.out; omega)]; rfl
        by_cases h1 : isDig c
        · have hD' : Hid (∀ j c, j < k + 1 → s.data.toList[j]? = some c → isDig c) := by
            intro j d hj hd
            rcases (by omega : j < k ∨ j = k) with h | rfl
            · exact hD.out j d h hd
            · rw [hck] at hd; cases hd; exact h1
          unfold isDig at h1
          obtain ⟨h2, h3⟩ := h1
          rw [hc] at h2 h3
          clear hc hck
          go_wp2_with fail
          go_round
          case rel => exact ⟨k + 1, by go_num, hlt, hD'⟩
          case measure => simp [intOf]; omega
        · have e := hide (hnum.out.trans (digsB_no hck h1))
          have e1 := hide (show readE s.data.toList = 4 by unfold readE; rw [e.out]; rfl)
          have e2 := hide (readV_no (l := s.data.toList) (by rw [e1.out]; decide))
          unfold isDig at h1
          rw [hc] at h1
          rcases (by omega : s[k].toNat < 48 ∨ 57 < s[k].toNat) with h2 | h2
          all_goals
            clear hc hck h1
            go_wp2_with fail
            go_returns
            exact ⟨by rw [e1.out, e2.out]; rfl, Ext.refl _⟩
      · have hDig := hide (show ∀ (j : Nat) (hj : j < s.size), 48 ≤ s[j].toNat ∧ s[j].toNat ≤ 57 from fun j hj => hD.out j s[j] (by omega) (by rw [List.getElem?_eq_getElem (by have := hsz.out; omega)]; rfl))
        have e := hide (hnum.out.trans (show digsB s.data.toList = true by
          have := digsB_take s.data.toList k hD.out
          rwa [List.take_of_length_le (by have := hsz.out; omega)] at this))
        replace hlt : s.size ≤ k := by omega
        clear hD
        go_wp2_with fail
        clear hlt hk
        go_loopw [7, 8] (fun n i wr => ∃ (k : Nat) (N : Int), n = .int .i64 N ∧ i = .int .i64 k ∧ Hid (N = (dval 0 (s.data.toList.take k) : Int)) ∧ k ≤ s.size ∧ (-9223372036854775808 ≤ N ∧ N ≤ 9223372036854775807) ∧ Ext w wr) (fun _ i _ => s.size - (intOf i).toNat)
        case atStart => exact ⟨0, 0, rfl, rfl, by rw [List.take_zero, dval_nil]; exact rfl, Nat.zero_le _, by omega, Ext.refl _⟩
        case round =>
          obtain ⟨k, N, rfl, rfl, hN, hk, hNI, hX⟩ := hrel
          by_cases hlt : k < s.size
          · obtain ⟨d1, d2⟩ := hDig.out k hlt
            have hck : s.data.toList[k]? = some s[k] := by rw [List.getElem?_eq_getElem (by have := hsz.out; omega)]; rfl
            have hpre := dval_next (l := s.data.toList) (k := k) (by have := hsz.out; omega)
            have hnx := dval_take hck
            have hpk := dval_prefix s.data.toList (k + 1)
            have hNN := hN.out
            have hvv := hv.out
            have hcI : -9223372036854775808 ≤ (s[k].toNat : Int) - 48 ∧ (s[k].toNat : Int) - 48 ≤ 9223372036854775807 := by omega
            by_cases m1' : -9223372036854775808 ≤ N * 10 ∧ N * 10 ≤ 9223372036854775807
            · have m1 := hide (inR_yes m1')
              have hMI := m1'
              have hN1 := hide (show N * 10 + ((s[k].toNat : Int) - 48) = (dval 0 (s.data.toList.take (k + 1)) : Int) by omega)
              by_cases m2' : -9223372036854775808 ≤ N * 10 + ((s[k].toNat : Int) - 48) ∧ N * 10 + ((s[k].toNat : Int) - 48) ≤ 9223372036854775807
              · have m2 := hide (inR_yes m2')
                clear hck hpre hnx hpk hNN hvv m1'
                go_wp2_with (first | (go_at_call 26; (first | (with_reducible refine seq_gw' (refMul_c _ 10 hNI (by omega) _) ?_) | (with_reducible refine seq_gw (refMul_c _ 10 hNI (by omega) _) ?_)); intro g1; rw [m1.out]) | (go_at_call 28; (first | (with_reducible refine seq_gw' (refAdd_c _ _ hMI hcI _) ?_) | (with_reducible refine seq_gw (refAdd_c _ _ hMI hcI _) ?_)); intro g2; rw [m2.out]))
                go_roundw
                case rel => exact ⟨k + 1, _, rfl, by go_num, hN1.out, hlt, m2', ext_gw hX g2⟩
                case measure => simp [intOf]; omega
              · have m2 := hide (inR_no m2')
                have hV := inR_no (n := readVal s.data.toList) (by omega)
                have e1 := hide (show readE s.data.toList = 10 by unfold readE; rw [e.out, hV]; rfl)
                have e2 := hide (readV_no (l := s.data.toList) (by rw [e1.out]; decide))
                clear hck hpre hnx hpk hNN hvv m1' m2' hV
                go_wp2_with (first | (go_at_call 26; (first | (with_reducible refine seq_gw' (refMul_c _ 10 hNI (by omega) _) ?_) | (with_reducible refine seq_gw (refMul_c _ 10 hNI (by omega) _) ?_)); intro g1; rw [m1.out]) | (go_at_call 28; (first | (with_reducible refine seq_gw' (refAdd_c _ _ hMI hcI _) ?_) | (with_reducible refine seq_gw (refAdd_c _ _ hMI hcI _) ?_)); intro g2; rw [m2.out]))
                go_returns
                exact ⟨by rw [e1.out, e2.out]; rfl, ext_gw hX g2⟩
            · have m1 := hide (inR_no m1')
              have hV := inR_no (n := readVal s.data.toList) (by omega)
              have e1 := hide (show readE s.data.toList = 10 by unfold readE; rw [e.out, hV]; rfl)
              have e2 := hide (readV_no (l := s.data.toList) (by rw [e1.out]; decide))
              clear hck hpre hnx hpk hNN hvv m1' hV
              go_wp2_with (first | (go_at_call 26; (first | (with_reducible refine seq_gw' (refMul_c _ 10 hNI (by omega) _) ?_) | (with_reducible refine seq_gw (refMul_c _ 10 hNI (by omega) _) ?_)); intro g1; rw [m1.out]) | (go_at_call 28; (first | (with_reducible refine seq_gw' (refAdd_c _ _ hMI hcI _) ?_) | (with_reducible refine seq_gw (refAdd_c _ _ hMI hcI _) ?_)); intro g2; rw [m2.out]))
              go_returns
              exact ⟨by rw [e1.out, e2.out]; rfl, ext_gw hX g1⟩
          · have hNV : N = readVal s.data.toList := by
              rw [hN.out, hv.out, List.take_of_length_le (by have := hsz.out; omega)]
            have e1 := hide (show readE s.data.toList = 0 by unfold readE; rw [e.out, inR_yes (hNV ▸ hNI)]; rfl)
            have e2 := hide (show readV s.data.toList = N by unfold readV; rw [if_pos e1.out, hNV])
            replace hlt : s.size ≤ k := by omega
            clear hNV
            go_wp2_with fail
            go_returns
            exact ⟨by rw [e1.out, e2.out]; rfl, hX⟩
end Go.Proofs.YtpfcmlmljolplaaDoor
