/-
  A helper of ours: no claim of its own. Layer 3 (bin): the reader.
-/
import Derived.Test.YtopgapbipmblbaaBinA
import Derived.Test.YtopgapbipmblbaaBinS
import Derived.WalkSpells
import Derived.Deep.LoopGhost
set_option linter.unusedVariables false
set_option linter.unusedSimpArgs false
namespace Go.Proofs.Ytopgapbipmblbaa
open Go.RowKit
attribute [local go_sem] GW.cell GW.frozen In.eq_true In.le_true In.ne In.ne' In.ne_add In.ne_add' In.lt_add Upto.le_true Upto.le_add Upto.lt_add
attribute [-go_sem] sliced
attribute [local go_sem] sliced_eq

/-- A reader at block b: what it has left, and its error. -/
def Rdr (w : World) (S : List Nat) (b : Nat) (st : List UInt8 × Int) : Prop :=
  b ∈ S ∧ (st.2 ≠ 0 → st.1 = []) ∧ ∃ v, Ob w b 68 [v, .int .i64 st.2] ∧ By w S v st.1

theorem clone_c' (S : List Nat) (v : Value) (l : List UInt8) (hl : l.length ≤ 140737488355328) (w : World) (hv : By w S v l) : Calls Try.prog 32 #[v] w fun e w' => ∃ v', e = .returned v' ∧ OwnB w' w.heap.size v' l ∧ Ext w w' := by
  obtain ⟨A, cap, rfl, h1, h2, h3, h4⟩ := id hv
  have q : ∀ (w : World) (a : Option Addr) (n c n' c' : Nat), (binOp .eql 24 (.slice a n c) (.slice none n' c')).run Try.prog w = .ok (.bool a.isNone) w := fun w a n c n' c' => Lib.run_eql_slice_nil w _ _ a n c n' c' Try.underlying24
  cases A with
  | none =>
    have e : l = [] := by
      rcases h4 with h4 | ⟨_, _, h, _⟩
      · have := congrArg List.length h4; simpa [bs] using this
      · cases h
    subst e
    go_enter Try.func32, Try.ntmps32
    go_wp2_with fail
    go_returns
    exact ⟨_, rfl, own_nil _ _, Ext.refl w⟩
  | some ad =>
    have hlit := World.ownsRow_lit (base := w.heap.size) (e := 5) (size := 1) w #[] 0 (Nat.le_refl _) (by decide) rfl
    have hsrc := src_sl (P := Try.prog) Try.underlying24 (hv.alloc (.cells #[] 5)) (bs_one _) (by omega)
    clear hv h4
    go_enter Try.func32, Try.ntmps32
    go_wp2_with (at_builtin; refine wpl_app tBytes rfl (.tmp 5) (.tmp 6) rfl rfl hlit rfl hsrc (by unfold maxLen; omega) (by omega) (by simp) ?_; intro v2 w2 hown2 hgr2 _)
    go_returns
    refine ⟨_, rfl, ?_, ext_grown ((Ext.refl w).alloc _) hgr2 (fun k hk => (hlit.lt k hk).1)⟩
    simpa [OwnB] using hown2

theorem newReader_c' (S : List Nat) (v : Value) (l : List UInt8) (hl : l.length ≤ 140737488355328) (w : World) (hv : By w S v l) (hS : ∀ b, b ∈ S → b < w.heap.size) : Calls Try.prog 13 #[v] w fun e w' => ∃ b, e = .returned (.pointer (some ⟨b, 0, none⟩)) ∧ w.heap.size ≤ b ∧ Rdr w' (b :: S) b (l, 0) ∧ Ext w w' := by
  go_enter Try.func13, Try.ntmps13
  go_wp2_with (go_at_call 32; refine (clone_c' S v l hl _ hv).mono ?_; rintro e w1 ⟨v1, rfl, hown1, hext1⟩; obtain ⟨A1, c1, rfl⟩ := own_form hown1)
  go_returns
  have hz := hext1.size
  refine ⟨_, rfl, hz, ⟨by simp, by simp, _, Ob.new w1 _ [_, .int .i64 0], ?_⟩, hext1.alloc _⟩
  refine (Sl.own (S := S) hown1 hS |>.new (S' := w1.heap.size :: S) (fun b hb => ?_)).alloc _
  simp at hb; rcases hb with rfl | hb
  · exact .inr (Nat.le_refl _)
  · exact .inl hb

theorem newReader_c (S : List Nat) (v : Value) (l : List UInt8) (hl : l.length ≤ 140737488351232) (w : World) (hv : By w S v l) (hS : ∀ b, b ∈ S → b < w.heap.size) : Calls Try.prog 13 #[v] w fun e w' => ∃ b, e = .returned (.pointer (some ⟨b, 0, none⟩)) ∧ w.heap.size ≤ b ∧ Rdr w' (b :: S) b (l, 0) ∧ Ext w w' :=
  newReader_c' S v l (Nat.le_trans hl (by decide)) w hv hS
theorem clone_c (S : List Nat) (v : Value) (l : List UInt8) (hl : l.length ≤ 140737488351232) (w : World) (hv : By w S v l) : Calls Try.prog 32 #[v] w fun e w' => ∃ v', e = .returned v' ∧ OwnB w' w.heap.size v' l ∧ Ext w w' :=
  clone_c' S v l (Nat.le_trans hl (by decide)) w hv

theorem next_nil (S : List Nat) (b : Nat) (e : Int) (w : World) (h : Rdr w S b ([], e)) : Calls Try.prog 54 #[.pointer (some ⟨b, 0, none⟩)] w fun r w' => r = .returned (.tuple #[.int .u8 0, .bool false]) ∧ w = w' := by
  obtain ⟨hb, hi, v, hO, A, cap, rfl, h1, h2, h3, h4⟩ := h
  have c0 := hO.cell 0 rfl
  have f0 := hO.free 0
  clear hO h4
  go_enter Try.func54, Try.ntmps54
  go_wp2_with fail
  go_returns
  exact ⟨rfl, rfl⟩
theorem next_cons (S : List Nat) (b : Nat) (c : UInt8) (l : List UInt8) (e : Int) (w : World) (h : Rdr w S b (c :: l, e)) : Calls Try.prog 54 #[.pointer (some ⟨b, 0, none⟩)] w fun r w' => r = .returned (.tuple #[.int .u8 c.toNat, .bool true]) ∧ Rdr w' S b (l, e) ∧ Fr [b] w w' := by
  obtain ⟨hb, hi, v, hO, hB⟩ := h
  obtain ⟨A, cap, rfl, h1, h2, h3, h4⟩ := id hB
  rcases h4 with h4 | ⟨g, o, rfl, hg, hc⟩
  · simp [bs] at h4
  have c0 := hO.cell 0 rfl
  have f0 := hO.free 0
  have cc : w.cell? ⟨g, o, none⟩ = some (.int .u8 c.toNat) := hc 0 _ rfl
  have hcut := hB.cut 1 (l.length + 1) cap (by omega) (by simp) (by simpa using h1) (Nat.le_refl _)
  replace hO := hide hO
  replace hcut := hide hcut
  replace hi := hide hi
  clear hB h3 hc
  go_enter Try.func54, Try.ntmps54
  go_wp2_with fail
  go_returns
  refine ⟨rfl, ⟨hb, fun he => by have := hi.out he; simp at this, _, hO.out.set 0 _, ?_⟩, (Fr.refl [b] w).setCell _ _ (.inl (by simp))⟩
  have := hcut.out
  rw [List.take_of_length_le (by simp [bs])] at this
  exact Sl.set this _ _ hb

theorem fail_c (S : List Nat) (b : Nat) (l : List UInt8) (e x : Int) (w : World) (h : Rdr w S b (l, e)) : Calls Try.prog 55 #[.pointer (some ⟨b, 0, none⟩), .int .i64 x] w fun r w' => r = .returned (.tuple #[]) ∧ Rdr w' S b (failSt l e x) ∧ Fr [b] w w' := by
  have hR := h
  obtain ⟨hb, hi, v, hO, hB⟩ := h
  have c0 := hO.cell 0 rfl
  have c1 := hO.cell 1 rfl
  have f0 := hO.free 0
  have f1 := hO.free 1
  obtain ⟨A, cap, rfl, h1, h2, h3, h4⟩ := id hB
  clear h3 h4 hB
  replace hO := hide hO
  replace hR := hide hR
  replace hi := hide hi
  by_cases he : e = 0
  · subst he
    by_cases hx : x = 0
    · subst hx
      go_enter Try.func55, Try.ntmps55
      go_wp2_with fail
      go_returns
      exact ⟨rfl, by rw [failSt_ok]; exact hR.out, Fr.refl _ _⟩
    · have e1 : (x == 0) = false := by simp [hx]
      have e2 : (x != 0) = true := by simp [hx]
      replace hx := hide hx
      go_enter Try.func55, Try.ntmps55
      go_wp2_with fail
      go_returns
      refine ⟨rfl, ?_, ((Fr.refl [b] w).setCell _ _ (.inl (by simp))).setCell _ _ (.inl (by simp))⟩
      rw [failSt_new l hx.out]
      exact ⟨hb, by simp, _, (hO.out.set 0 _).set 1 _, Sl.nil _ _ _⟩
  · have e1 : (e == 0) = false := by simp [he]
    replace he := hide he
    go_enter Try.func55, Try.ntmps55
    go_wp2_with fail
    go_returns
    refine ⟨rfl, ?_, Fr.refl _ _⟩
    rw [failSt_old l x he.out]
    exact hR.out
set_option maxHeartbeats 2000000 in
set_option maxRecDepth 100000 in
theorem collect_c (S : List Nat) (b : Nat) (l : List UInt8) (most : Nat) (hm : most = 9 ∨ most = 10) (e : Int) (w : World) (h : Rdr w S b (l, e)) : Calls Try.prog 72 #[.func (.func 54) #[.pointer (some ⟨b, 0, none⟩)] #[], .int .i64 most] w fun r w' => r = .returned (.tuple #[.int .u64 (parV most l), .int .i64 (parE most l)]) ∧ Rdr w' S b (parL most l, e) ∧ Fr [b] w w' := by
  have hml : most ≤ 10 := by omega
  replace hm := hide hm
  go_enter Try.func72, Try.ntmps72
  go_wp2_with fail
  go_loopw [6, 13] (fun n i wr => ∃ (k : Nat) (N : Int), n = .int .u64 N ∧ i = .int .i64 k ∧ Hid (k ≤ 9 → N = gval (l.take k)) ∧ k ≤ most ∧ Led l k ∧ Rdr wr S b (l.drop k, e) ∧ Fr [b] w wr)
    (fun _ i _ => most - (intOf i).toNat)
  case atStart => exact ⟨0, 0, rfl, rfl, fun _ => rfl, Nat.zero_le _, Led.zero l, h, Fr.refl _ _⟩
  case round =>
    obtain ⟨k, N, rfl, rfl, hN, hk, hL, hR, hF⟩ := hrel
    by_cases hkm : k = most
    · subst hkm
      have e1 := hide (par_most hL rfl)
      go_wp2_with fail
      go_returns
      have e2 := par_no (l := l) (most := k) (by rw [e1.out]; decide)
      refine ⟨by rw [e2.1, e1.out]; rfl, ?_, hF⟩
      unfold parL; rw [if_pos hL.lead_le]; exact hR
    have hlt : k < most := by omega
    obtain rfl := hN.out (by omega)
    clear hN
    rcases hd : l.drop k with _ | ⟨c, r⟩
    · rw [hd] at hR
      have hl := drop_nil hd hL.1
      have e1 := par_end hL hlt hl
      have e2 := hide (par_no (l := l) (most := most) (by rw [e1]; decide)).1
      have eL := hide (show parL most l = [] by unfold parL; have := hL.lead_le; have := lead_len l; rw [if_neg (by omega), List.drop_eq_nil_of_le (by omega)])
      replace e1 := hide e1
      clear hl hd
      go_wp2_with (go_at_call 54; refine (next_nil S b e _ hR).mono ?_; rintro ee w1 ⟨rfl, rfl⟩)
      go_returns
      exact ⟨by rw [e1.out, e2.out]; rfl, by rw [eL.out]; exact hR, hF⟩
    · rw [hd] at hR
      obtain ⟨hc, hr, hkl⟩ := drop_at hd
      clear hd
      by_cases h1 : 128 ≤ c.toNat
      · have hS := hide (hL.succ hc h1)
        by_cases h9 : k = 9
        · subst h9
          replace hc := hide hc; replace hr := hide hr
          go_wp2_with (go_at_call 54; refine (next_cons S b c r e _ hR).mono ?_; rintro ee w1 ⟨rfl, hR1, hF1⟩)
          go_roundw
          case rel => exact ⟨9 + 1, _, rfl, by go_num, fun h => absurd h (by omega), hlt, hS.out, by rw [hr.out]; exact hR1, hF.trans hF1⟩
          case measure => simp [intOf]; omega
        have hor := sh_or hc (by omega) (fun h => absurd h h9)
        replace hc := hide hc; replace hr := hide hr
        go_wp2_with (go_at_call 54; refine (next_cons S b c r e _ hR).mono ?_; rintro ee w1 ⟨rfl, hR1, hF1⟩)
        go_roundw
        case rel => exact ⟨k + 1, _, rfl, by go_num, fun _ => rfl, hlt, hS.out, by rw [hr.out]; exact hR1, hF.trans hF1⟩
        case measure => simp [intOf]; omega
      have hA := par_at hL hlt hc (by omega)
      have eL := hide (show parL most l = r by unfold parL; rw [hA.2, if_neg (by omega), hr])
      have hA := hide hA.1
      by_cases h2 : 0 < k ∧ c.toNat = 0
      · obtain ⟨h2, h3⟩ := h2
        have e1 := hide (show parE most l = 4 by rw [hA.out, if_neg (by omega), if_pos ⟨h2, h3⟩])
        have e2 := hide (par_no (l := l) (most := most) (by rw [e1.out]; decide)).1
        have h0 : ((c.toNat : Int) == 0) = true := by simp [h3]
        clear hA h3
        replace hc := hide hc; replace hr := hide hr
        go_wp2_with (go_at_call 54; refine (next_cons S b c r e _ hR).mono ?_; rintro ee w1 ⟨rfl, hR1, hF1⟩)
        go_returns
        exact ⟨by rw [e1.out, e2.out]; rfl, by rw [eL.out]; exact hR1, hF.trans hF1⟩
      by_cases h3 : k = 9 ∧ 1 < c.toNat
      · obtain ⟨h9, h3⟩ := h3
        have e1 := hide (show parE most l = 4 by rw [hA.out, if_pos ⟨h9, h3⟩])
        have e2 := hide (par_no (l := l) (most := most) (by rw [e1.out]; decide)).1
        have h0 : ((c.toNat : Int) == 0) = false := by simp; omega
        have hne := sh_beyond h9 h3 (by omega)
        replace h9 : 9 ≤ k := by omega
        clear hA h2
        replace hc := hide hc; replace hr := hide hr
        go_wp2_with (go_at_call 54; refine (next_cons S b c r e _ hR).mono ?_; rintro ee w1 ⟨rfl, hR1, hF1⟩)
        go_returns
        exact ⟨by rw [e1.out, e2.out]; rfl, by rw [eL.out]; exact hR1, hF.trans hF1⟩
      obtain ⟨e1, e2, e3⟩ := par_ok hL hlt hc (by omega) h3 h2
      clear e3
      have hor := sh_or hc (by omega) (fun h => by subst h; omega)
      have hne := sh_back (k := k) (c := c) (by omega) (fun h => by subst h; omega)
      replace e1 := hide e1; replace e2 := hide e2
      replace hc := hide hc; replace hr := hide hr
      clear hA h3
      by_cases h0 : c.toNat = 0
      · have hk0 : k ≤ 0 := by omega
        replace h0 : ((c.toNat : Int) == 0) = true := by simp [h0]
        clear h2
        go_wp2_with (go_at_call 54; refine (next_cons S b c r e _ hR).mono ?_; rintro ee w1 ⟨rfl, hR1, hF1⟩)
        go_returns
        exact ⟨by rw [e1.out, e2.out]; rfl, by rw [eL.out]; exact hR1, hF.trans hF1⟩
      · replace h0 : ((c.toNat : Int) == 0) = false := by simp [h0]
        clear h2
        go_wp2_with (go_at_call 54; refine (next_cons S b c r e _ hR).mono ?_; rintro ee w1 ⟨rfl, hR1, hF1⟩)
        go_returns
        exact ⟨by rw [e1.out, e2.out]; rfl, by rw [eL.out]; exact hR1, hF.trans hF1⟩
end Go.Proofs.Ytopgapbipmblbaa
