/-
  A helper of ours: no claim of its own. Layer 5 (value): the document's value that is written, read.
-/
import Derived.Test.YtpfcmlmljolplaaDoorValZ
set_option linter.unusedVariables false
set_option linter.unusedSimpArgs false
namespace Go.Proofs.YtpfcmlmljolplaaDoor
open Go.RowKit
attribute [local go_sem] GW.cell GW.frozen In.eq_true In.le_true In.ne In.ne' In.ne_add In.ne_add' In.lt_add Upto.le_true Upto.le_add Upto.lt_add
/-- The byte that the document reads first, and how many bytes that takes. -/
def pairC (x y : UInt8) : UInt8 × Nat := match hexAt x, hexAt y with
  | some a, some b => (hexV a b, 3)
  | _, _ => (0, 0)
def cd : List UInt8 → UInt8 × Nat
  | [] => (0, 0)
  | c :: r => if c.toNat = 92 then (match r with
    | x :: y :: _ => pairC x y
    | _ => (0, 0)) else (c, 1)
/-- It is not what it should be. -/
def cdBad (p : UInt8 × Nat) : Bool := decide (p.2 = 0) || ((!plainB p.1) != decide (p.2 = 3))
theorem plain92 : plainB 92 = false := by decide +kernel
theorem cd_first1 (c : UInt8) (r : List UInt8) : first1 (c :: r) = if cdBad (cd (c :: r)) then none else some (cd (c :: r)) := by
  rw [first1_cons]
  by_cases h92 : c.toNat = 92
  · have hc : c = 92 := by apply UInt8.toNat_inj.1; rw [h92]; rfl
    subst hc
    rw [plain92, if_neg (by decide), if_pos h92]
    have e : cd (92 :: r) = (match r with
      | x :: y :: _ => pairC x y
      | _ => (0, 0)) := by rcases r with _ | ⟨x, _ | ⟨y, q⟩⟩ <;> rfl
    rw [e]
    rcases r with _ | ⟨x, _ | ⟨y, q⟩⟩
    · rfl
    · rfl
    · simp only
      cases hx : hexAt x with
      | none => simp [pair1, pairC, hx, cdBad]
      | some a =>
        cases hy : hexAt y with
        | none => simp [pair1, pairC, hx, hy, cdBad]
        | some b =>
          rw [pair1_cons x y q hx hy]
          have e : pairC x y = (hexV a b, 3) := by unfold pairC; rw [hx, hy]
          rw [e]
          cases hp : plainB (hexV a b) <;> simp [cdBad, hp]
  · have e : cd (c :: r) = (c, 1) := if_neg h92
    rw [e, if_neg h92]
    cases hp : plainB c <;> simp [cdBad, hp]
theorem hex_at_i (n : Nat) (h : n < 16) (w : World) : (Instr.index 9 (.string ⟨#[48, 49, 50, 51, 52, 53, 54, 55, 56, 57, 97, 98, 99, 100, 101, 102]⟩) (.int .i64 (n : Int))).run Tryd.prog w = .ok (.int .u8 (hexd n).toNat) w := by
  rcases (by omega : n = 0 ∨ n = 1 ∨ n = 2 ∨ n = 3 ∨ n = 4 ∨ n = 5 ∨ n = 6 ∨ n = 7 ∨ n = 8 ∨ n = 9 ∨ n = 10 ∨ n = 11 ∨ n = 12 ∨ n = 13 ∨ n = 14 ∨ n = 15) with rfl | rfl | rfl | rfl | rfl | rfl | rfl | rfl | rfl | rfl | rfl | rfl | rfl | rfl | rfl | rfl <;> kernel_rfl
theorem u8_beq (a b : UInt8) : ((a.toNat : Int) == (b.toNat : Int)) = decide (a = b) := by
  by_cases h : a = b
  · subst h; simp
  · rw [decide_eq_false h, beq_eq_false_iff_ne]
    intro e
    exact h (UInt8.toNat_inj.1 (by omega))
set_option maxHeartbeats 4000000 in
set_option maxRecDepth 100000 in
theorem code_short (s : ByteArray) (c : UInt8) (r : List UInt8) (hs : s.data.toList = c :: r) (h : c.toNat ≠ 92 ∨ s.size < 3) (w : World) : Calls Tryd.prog 21 #[.string s] w fun e w' => e = .returned (.tuple #[.int .u8 (cd s.data.toList).1.toNat, .int .i64 ((cd s.data.toList).2 : Nat)]) ∧ Ext w w' := by
  obtain ⟨hpos, h0⟩ := str_at (i := 0) (by rw [hs]; rfl)
  have hsz := size_lst s
  by_cases h92 : c.toNat = 92
  · have h3 := h.resolve_left (by simpa using h92)
    have e : cd s.data.toList = (0, 0) := by
      unfold cd
      rw [hs]
      simp only
      rw [if_pos h92]
      rcases r with _ | ⟨x, _ | ⟨y, q⟩⟩
      · rfl
      · rfl
      · rw [hs] at hsz; simp only [List.length_cons] at hsz; omega
    rw [e]
    have e1 : ((s[0].toNat : Int) != 92) = false := by rw [h0, h92]; rfl
    have e2 : decide ((s.size : Int) < 3) = true := by rw [decide_eq_true_iff]; omega
    clear hs h h0 h3 e hsz h92
    go_enter Tryd.func21, Tryd.ntmps21
    go_wp2_with fail
    go_returns
    exact ⟨rfl, Ext.refl w⟩
  · have e : cd s.data.toList = (c, 1) := by unfold cd; rw [hs]; simp only; rw [if_neg h92]
    rw [e]
    have e1 : ((s[0].toNat : Int) != 92) = true := by rw [h0, bne_iff_ne]; omega
    replace h0 := hide h0
    clear hs h e hsz h92
    go_enter Tryd.func21, Tryd.ntmps21
    go_wp2_with fail
    go_returns
    rw [h0.out]
    exact ⟨rfl, Ext.refl w⟩
set_option maxHeartbeats 4000000 in
set_option maxRecDepth 100000 in
theorem code_pair (s : ByteArray) (c x y : UInt8) (q : List UInt8) (hs : s.data.toList = c :: x :: y :: q) (h92 : c.toNat = 92) (w : World) : Calls Tryd.prog 21 #[.string s] w fun e w' => e = .returned (.tuple #[.int .u8 (pairC x y).1.toNat, .int .i64 ((pairC x y).2 : Nat)]) ∧ Ext w w' := by
  obtain ⟨hpos, h0⟩ := str_at (i := 0) (by rw [hs]; rfl)
  obtain ⟨hpos1, h1⟩ := str_at (i := 1) (by rw [hs]; rfl)
  obtain ⟨hpos2, h2⟩ := str_at (i := 2) (by rw [hs]; rfl)
  have hsz := size_lst s
  rw [hs] at hsz
  simp only [List.length_cons] at hsz
  have e1 : ((s[0].toNat : Int) != 92) = false := by rw [h0, h92]; rfl
  have e2 : decide ((s.size : Int) < 3) = false := by rw [decide_eq_false_iff_not]; omega
  have hI1 : (1 : Int) < s.size := by omega
  have hI2 : (2 : Int) < s.size := by omega
  have g1 : Hid (s[1].toNat = x.toNat) := by show _ = _; rw [h1]
  have g2 : Hid (s[2].toNat = y.toNat) := by show _ = _; rw [h2]
  obtain ⟨R, hR⟩ : ∃ R, R = pairC x y := ⟨_, rfl⟩
  rw [← hR]
  have hyes : Hid (∀ k, k < 256 → x = hexd (k / 16) → y = hexd (k % 16) → R = (UInt8.ofNat k, 3)) := by
    intro k hk hx hy
    have ax : hexAt x = some (k / 16) := by rw [hx]; exact hexAt_hexd ⟨k / 16, by omega⟩
    have ay : hexAt y = some (k % 16) := by rw [hy]; exact hexAt_hexd ⟨k % 16, by omega⟩
    rw [hR]
    unfold pairC
    rw [ax, ay]
    simp only [hexV]
    rw [Nat.div_add_mod]
  have hno : Hid ((∀ k, k < 256 → ¬ (x = hexd (k / 16) ∧ y = hexd (k % 16))) → R = (0, 0)) := by
    intro h
    rw [hR]
    unfold pairC
    cases ax : hexAt x with
    | none => rfl
    | some a =>
      cases ay : hexAt y with
      | none => rfl
      | some b =>
        have la := hexAt_lt ax
        have lb := hexAt_lt ay
        exfalso
        refine h (16 * a + b) (by omega) ⟨?_, ?_⟩
        · rw [show (16 * a + b) / 16 = a by omega]; exact hexd_hexAt ax
        · rw [show (16 * a + b) % 16 = b by omega]; exact hexd_hexAt ay
  clear hR hs h0 h1 h2 h92 hsz
  go_enter Tryd.func21, Tryd.ntmps21
  go_wp2_with fail
  go_loopg [4] 256 (fun g i wr => ∃ k : Nat, i = .int .i64 k ∧ k + g = 256 ∧ Hid (∀ j, j < k → ¬ (x = hexd (j / 16) ∧ y = hexd (j % 16))) ∧ Ext w wr)
  case atStart => exact ⟨0, rfl, by omega, fun j hj => absurd hj (by omega), Ext.refl w⟩
  case round =>
    obtain ⟨k, rfl, hk, hA, hX⟩ := hrel
    by_cases hlt : k < 256
    · have hltI : (k : Int) < 256 := by omega
      have hd16 : k / 16 < 16 := by omega
      have hm16 : k % 16 < 16 := by omega
      have i1 := hex_at_i (k / 16) hd16
      have i2 := hex_at_i (k % 16) hm16
      have c1 : ((k / 16 : Nat) : Int) = (k : Int) / 16 := by omega
      have c2 : ((k % 16 : Nat) : Int) = (k : Int) % 16 := by omega
      rw [c1] at i1
      rw [c2] at i2
      clear c1 c2
      by_cases hx : x = hexd (k / 16)
      · have t1 : ((s[1].toNat : Int) == (hexd (k / 16)).toNat) = true := by rw [g1.out, u8_beq, decide_eq_true hx]
        by_cases hy : y = hexd (k % 16)
        · have t2 : ((s[2].toNat : Int) == (hexd (k % 16)).toNat) = true := by rw [g2.out, u8_beq, decide_eq_true hy]
          have hf := hide (hyes.out k hlt hx hy)
          have hm : IntKind.u8.wrap (k : Int) = k := by simp only [IntKind.wrap, IntKind.bits, IntKind.signed]; simp; omega
          have hu : Hid (((UInt8.ofNat k).toNat : Int) = k) := by show _ = _; simp; omega
          clear hx hy hyes hno hA
          go_wp2_with fail
          go_quiet (fail)
          go_wp2_with fail
          go_returns
          rw [hf.out]
          exact ⟨by simp only [hu.out]; rfl, hX.drewN _⟩
        · have t2 : ((s[2].toNat : Int) == (hexd (k % 16)).toNat) = false := by rw [g2.out, u8_beq, decide_eq_false hy]
          have hA' := hide (show ∀ j, j < k + 1 → ¬ (x = hexd (j / 16) ∧ y = hexd (j % 16)) from fun j hj hh => by
            rcases (by omega : j < k ∨ j = k) with h | rfl
            · exact hA.out j h hh
            · exact hy hh.2)
          clear hx hy
          go_wp2_with fail
          go_quiet (fail)
          go_wp2_with fail
          go_roundg (256 - (k + 1))
          case measure => omega
          case rel => exact ⟨k + 1, by go_num, by omega, hA', hX.drewN _⟩
      · have t1 : ((s[1].toNat : Int) == (hexd (k / 16)).toNat) = false := by rw [g1.out, u8_beq, decide_eq_false hx]
        have hA' := hide (show ∀ j, j < k + 1 → ¬ (x = hexd (j / 16) ∧ y = hexd (j % 16)) from fun j hj hh => by
          rcases (by omega : j < k ∨ j = k) with h | rfl
          · exact hA.out j h hh
          · exact hx hh.1)
        clear hx
        go_wp2_with fail
        go_quiet (fail)
        go_wp2_with fail
        go_roundg (256 - (k + 1))
        case measure => omega
        case rel => exact ⟨k + 1, by go_num, by omega, hA', hX.drewN _⟩
    · have hge : (256 : Int) ≤ k := by omega
      have hk' : k = 256 := by omega
      subst hk'
      have hf := hide (hno.out hA.out)
      go_wp2_with fail
      go_returns
      rw [hf.out]
      exact ⟨rfl, hX⟩
theorem code_c (s : ByteArray) (c : UInt8) (r : List UInt8) (hs : s.data.toList = c :: r) (w : World) : Calls Tryd.prog 21 #[.string s] w fun e w' => e = .returned (.tuple #[.int .u8 (cd s.data.toList).1.toNat, .int .i64 ((cd s.data.toList).2 : Nat)]) ∧ Ext w w' := by
  have hsz := size_lst s
  by_cases h : c.toNat ≠ 92 ∨ s.size < 3
  · exact code_short s c r hs h w
  · have h92 : c.toNat = 92 := by omega
    rcases r with _ | ⟨x, _ | ⟨y, q⟩⟩
    · rw [hs] at hsz; simp only [List.length_cons, List.length_nil] at hsz; omega
    · rw [hs] at hsz; simp only [List.length_cons, List.length_nil] at hsz; omega
    · have e : cd s.data.toList = pairC x y := by unfold cd; rw [hs]; simp only; rw [if_pos h92]
      rw [e]
      exact code_pair s c x y q hs h92 w
theorem drop_lt {s : ByteArray} {k : Nat} (h : k < s.size) : s.data.toList.drop k = s[k] :: s.data.toList.drop (k + 1) := by
  have : k < s.data.toList.length := by rw [Array.length_toList]; exact h
  rw [List.drop_eq_getElem_cons this]; rfl
theorem cd_range (l : List UInt8) : (cd l).2 = 0 ∨ (cd l).2 = 1 ∨ (cd l).2 = 3 := by
  rcases l with _ | ⟨c, r⟩
  · exact .inl rfl
  · by_cases h : c.toNat = 92
    · have e : cd (c :: r) = (match r with
        | x :: y :: _ => pairC x y
        | _ => (0, 0)) := if_pos h
      rw [e]
      rcases r with _ | ⟨x, _ | ⟨y, q⟩⟩
      · exact .inl rfl
      · exact .inl rfl
      · simp only [pairC]
        split
        · exact .inr (.inr rfl)
        · exact .inl rfl
    · have e : cd (c :: r) = (c, 1) := if_neg h
      rw [e]; exact .inr (.inl rfl)
abbrev zO : Obj := .cells #[.int .i64 0, .int .i64 0, .string ⟨#[]⟩] 24
set_option maxHeartbeats 4000000 in
set_option maxRecDepth 100000 in
theorem refParse_num (s : ByteArray) (hs : s.size ≤ 140737488351232) (h : s.data.toList.head? ≠ some 39) (w : World) : Calls Tryd.prog 10 #[.string s] w fun e w' => e = .returned (.tuple #[vlv (paV s.data.toList), .int .i64 (paE s.data.toList)]) ∧ Ext w w' := by
  have hr := hide (fun w => refRead_c s hs w)
  have e1 : paV s.data.toList = if readE s.data.toList = 0 then (1, readV s.data.toList, ⟨#[]⟩) else (0, 0, ⟨#[]⟩) := if_neg h
  have e2 : paE s.data.toList = readE s.data.toList := if_neg h
  rw [e1, e2]
  clear e1 e2
  rcases hl : s.data.toList with _ | ⟨c, r⟩
  · have nE : s.toList.isEmpty = true := by rw [Lib.toList_data, hl]; rfl
    have e1 : readE [] = 4 := by decide +kernel
    rw [e1, if_neg (by decide)]
    clear hl hr e1 h
    go_enter Tryd.func10, Tryd.ntmps10
    go_wp2_with fail
    go_returns
    exact ⟨rfl, (Ext.refl w).alloc _⟩
  · have nE : s.toList.isEmpty = false := by rw [Lib.toList_data, hl]; rfl
    obtain ⟨hpos, h0⟩ := str_at (s := s) (i := 0) (c := c) (by rw [hl]; rfl)
    have h9 : c.toNat ≠ 39 := by
      intro k
      apply h
      rw [hl]
      have : c = 39 := by apply UInt8.toNat_inj.1; rw [k]; rfl
      rw [this]; rfl
    have e0 : ((s[0].toNat : Int) != 39) = true := by rw [h0, bne_iff_ne]; omega
    rw [hl] at hr
    clear h9 h0 hl h
    generalize readE (c :: r) = x at *
    generalize readV (c :: r) = n at *
    by_cases hx : x = 0
    · subst hx
      rw [if_pos rfl]
      go_enter Tryd.func10, Tryd.ntmps10
      go_wp2_with (first | (go_at_call 19; (with_reducible refine seq_gw (hr.out _) ?_); intro g) | (go_at_call 20; (with_reducible refine seq_gw' (vrefNum_c _ _) ?_); intro g2))
      go_returns
      exact ⟨rfl, (((((Ext.refl w).alloc _).trans g2.grown).setCell (Nat.le_refl _) _).setCell (Nat.le_refl _) _).setCell (Nat.le_refl _) _⟩
    · rw [if_neg hx]
      have hxb : (x != 0) = true := by simp [hx]
      replace hx := hide hx
      go_enter Tryd.func10, Tryd.ntmps10
      go_wp2_with (go_at_call 19; (with_reducible refine seq_gw (hr.out _) ?_); intro g)
      go_returns
      exact ⟨rfl, (((((Ext.refl w).alloc _).trans g.grown).setCell (Nat.le_refl _) _).setCell (Nat.le_refl _) _).setCell (Nat.le_refl _) _⟩
set_option maxHeartbeats 4000000 in
set_option maxRecDepth 100000 in
theorem refParse_short (s : ByteArray) (hs : s.size ≤ 140737488351232) (c : UInt8) (r : List UInt8) (hl : s.data.toList = c :: r) (h39 : c.toNat = 39) (h : s.size < 2 ∨ (s.data.toList.getD (s.size - 1) 0).toNat ≠ 39) (w : World) : Calls Tryd.prog 10 #[.string s] w fun e w' => e = .returned (.tuple #[val 0 0 ⟨#[]⟩, .int .i64 4]) ∧ Ext w w' := by
  have hsI : (s.size : Int) ≤ 140737488351232 := by omega
  have nE : s.toList.isEmpty = false := by rw [Lib.toList_data, hl]; rfl
  obtain ⟨hpos, h0⟩ := str_at (s := s) (i := 0) (c := c) (by rw [hl]; rfl)
  have e0 : ((s[0].toNat : Int) != 39) = false := by rw [h0, h39]; rfl
  by_cases h2 : s.size < 2
  · have hI : (s.size : Int) < 2 := by omega
    clear h h0 hl h39
    go_enter Tryd.func10, Tryd.ntmps10
    go_wp2_with fail
    go_returns
    exact ⟨rfl, (Ext.refl w).alloc _⟩
  · have h3 := h.resolve_left h2
    have hlt : s.size - 1 < s.size := by omega
    have e2 : ((s[s.size - 1].toNat : Int) != 39) = true := by
      rw [last_at hlt, bne_iff_ne]; omega
    have hI : (2 : Int) ≤ (s.size : Int) := by omega
    have hI1 : (1 : Int) ≤ (s.size : Int) - 1 := by omega
    clear h h3 h0 hl h39
    go_enter Tryd.func10, Tryd.ntmps10
    go_wp2_with fail
    go_returns
    exact ⟨rfl, (Ext.refl w).alloc _⟩
theorem odd_facts (d : UInt8) : (plainB d = true ∧ ¬ d.toNat < 32 ∧ ¬ 126 < d.toNat ∧ d.toNat ≠ 39 ∧ d.toNat ≠ 92) ∨ (plainB d = false ∧ (d.toNat < 32 ∨ (¬ d.toNat < 32 ∧ 126 < d.toNat) ∨ (¬ d.toNat < 32 ∧ ¬ 126 < d.toNat ∧ d.toNat = 39) ∨ (¬ d.toNat < 32 ∧ ¬ 126 < d.toNat ∧ d.toNat ≠ 39 ∧ d.toNat = 92))) := by
  cases h : plainB d
  · exact .inr ⟨rfl, not_plain h⟩
  · exact .inl ⟨rfl, is_plain h⟩
theorem refOdd (d : UInt8) : (decide ((d.toNat : Int) < 32) || decide ((126 : Int) < d.toNat) || ((d.toNat : Int) == 39) || ((d.toNat : Int) == 92)) = !plainB d := by
  rcases odd_facts d with ⟨h, h1, h2, h3, h4⟩ | ⟨h, hh⟩
  · rw [h]
    have t1 : decide ((d.toNat : Int) < 32) = false := by rw [decide_eq_false_iff_not]; omega
    have t2 : decide ((126 : Int) < d.toNat) = false := by rw [decide_eq_false_iff_not]; omega
    have t3 : ((d.toNat : Int) == 39) = false := by rw [beq_eq_false_iff_ne]; omega
    have t4 : ((d.toNat : Int) == 92) = false := by rw [beq_eq_false_iff_ne]; omega
    rw [t1, t2, t3, t4]; rfl
  · rw [h]
    rcases hh with h1 | ⟨_, h2⟩ | ⟨_, _, h3⟩ | ⟨_, _, _, h4⟩
    · have t1 : decide ((d.toNat : Int) < 32) = true := by rw [decide_eq_true_iff]; omega
      rw [t1]; simp
    · have t2 : decide ((126 : Int) < d.toNat) = true := by rw [decide_eq_true_iff]; omega
      rw [t2]; simp
    · have t3 : ((d.toNat : Int) == 39) = true := by rw [beq_iff_eq]; omega
      rw [t3]; simp
    · have t4 : ((d.toNat : Int) == 92) = true := by rw [beq_iff_eq]; omega
      rw [t4]; simp
-- (valj.py writes what follows)
theorem odd_ways (d : UInt8) : (plainB d = true ∧ decide ((d.toNat : Int) < 32) = false ∧ decide ((126 : Int) < d.toNat) = false ∧ ((d.toNat : Int) == 39) = false ∧ ((d.toNat : Int) == 92) = false) ∨
    (plainB d = false ∧ decide ((d.toNat : Int) < 32) = true) ∨
    (plainB d = false ∧ decide ((d.toNat : Int) < 32) = false ∧ decide ((126 : Int) < d.toNat) = true) ∨
    (plainB d = false ∧ decide ((d.toNat : Int) < 32) = false ∧ decide ((126 : Int) < d.toNat) = false ∧ ((d.toNat : Int) == 39) = true) ∨
    (plainB d = false ∧ decide ((d.toNat : Int) < 32) = false ∧ decide ((126 : Int) < d.toNat) = false ∧ ((d.toNat : Int) == 39) = false ∧ ((d.toNat : Int) == 92) = true) := by
  simp only [decide_eq_false_iff_not, decide_eq_true_iff, beq_eq_false_iff_ne, beq_iff_eq]
  rcases odd_facts d with ⟨h, h1, h2, h3, h4⟩ | ⟨h, hh⟩
  · left; exact ⟨h, by omega, by omega, by omega, by omega⟩
  · right
    rcases hh with h1 | ⟨h1, h2⟩ | ⟨h1, h2, h3⟩ | ⟨h1, h2, h3, h4⟩
    · left; exact ⟨h, by omega⟩
    · right; left; exact ⟨h, by omega, by omega⟩
    · right; right; left; exact ⟨h, by omega, by omega, by omega⟩
    · right; right; right; exact ⟨h, by omega, by omega, by omega, by omega⟩
set_option maxHeartbeats 16000000 in
set_option maxRecDepth 100000 in
theorem refParse_long (s : ByteArray) (hs : s.size ≤ 140737488351232) (c0 : UInt8) (r0 : List UInt8) (hl : s.data.toList = c0 :: r0) (h39 : c0.toNat = 39) (h2 : 2 ≤ s.size) (h9 : (s.data.toList.getD (s.size - 1) 0).toNat = 39) (w : World) : Calls Tryd.prog 10 #[.string s] w fun e w' => e = .returned (.tuple #[vlv (ptV (unq (mid s.data.toList))), .int .i64 (ptE (unq (mid s.data.toList)))]) ∧ Ext w w' := by
  have hsI : (s.size : Int) ≤ 140737488351232 := by omega
  have nE : s.toList.isEmpty = false := by rw [Lib.toList_data, hl]; rfl
  obtain ⟨hpos, h0⟩ := str_at (s := s) (i := 0) (c := c0) (by rw [hl]; rfl)
  have e0 : ((s[0].toNat : Int) != 39) = false := by rw [h0, h39]; rfl
  have hlt : s.size - 1 < s.size := by omega
  have e2 : ((s[s.size - 1].toNat : Int) != 39) = false := by
    rw [last_at hlt, h9]; rfl
  have hI : (2 : Int) ≤ (s.size : Int) := by omega
  have hI1 : (1 : Int) ≤ (s.size : Int) - 1 := by omega
  obtain ⟨R, hR⟩ : ∃ R, R = unq (mid s.data.toList) := ⟨_, rfl⟩
  rw [← hR]
  have hR0 : Hid (R = (unq (s.extract 1 (s.size - 1)).data.toList).map (([] : List UInt8) ++ ·)) := by
    show R = _
    rw [mid_str, hR]; cases unq (mid s.data.toList) <;> simp
  have O0 := hide (Ob.new w 24 [.int .i64 0, .int .i64 0, .string ⟨#[]⟩])
  have hlit : Hid (OwnB ((w.alloc zO).alloc (.cells #[] 5)) (w.heap.size + 1) (.slice (some ⟨w.heap.size + 1, 0, none⟩) 0 0) []) := by
    have h := World.ownsRow_made (base := (w.alloc zO).heap.size) (e := 5) (size := 1) (w.alloc zO) #[] 0 (Nat.le_refl _) (Nat.zero_le _) rfl
    simp only [World.size_alloc] at h
    exact h
  clear hR h0 hl h39 h9
  go_enter Tryd.func10, Tryd.ntmps10
  go_wp2_with fail
  clear nE e0 e2
  go_loopg [6, 7] s.size (fun g v i wr => ∃ (k : Nat) (a : List UInt8), i = .int .i64 k ∧ 1 ≤ k ∧ k ≤ s.size - 1 ∧ s.size - k ≤ g ∧ a.length ≤ k ∧ OwnB wr (w.heap.size + 1) v a ∧ Hid (R = (unq (s.extract k (s.size - 1)).data.toList).map (a ++ ·)) ∧ Ext (w.alloc zO) wr)
  case atStart => exact ⟨1, [], rfl, Nat.le_refl _, by omega, by omega, by simp, hlit.out, hR0, (Ext.refl _).alloc _⟩
  case round =>
    obtain ⟨k, a, rfl, hk1, hk2, hg, hak, ho, hRk, hX⟩ := hrel
    clear hR0 hlit
    have hXw : Ext w wr := ((Ext.refl w).alloc _).trans hX
    have hzX := hX.size
    simp only [World.size_alloc] at hzX
    have O1 := O0.out.ext hX
    have hlt1 := O1.lt
    haveI : In w.heap.size wr := ⟨hlt1⟩
    have hkI : (k : Int) ≤ (s.size : Int) - 1 := by omega
    have hkI1 : (1 : Int) ≤ (k : Int) := by omega
    by_cases hend : k = s.size - 1
    · have hce : ¬ ((k : Int) < (s.size : Int) - 1) := by omega
      have hR2 := hRk.out
      have he : (s.extract k (s.size - 1)).data.toList = [] := by rw [Lib.extract_data, ← hend, Nat.sub_self, List.take_zero]
      rw [he] at hR2
      replace hR2 : R = some a := by rw [hR2]; show some (a ++ []) = some a; rw [List.append_nil]
      obtain ⟨A, cp, rfl⟩ := own_form ho
      have hcv := run_str (P := Tryd.prog) Tryd.underlying41 Tryd.underlying5 Tryd.underlying9 (Sl.own (S := []) ho (by simp))
      have k0 := O1.cell 0 rfl; have k1 := O1.cell 1 rfl; have k2 := O1.cell 2 rfl; have z0 := O1.free 0; have z1 := O1.free 1; have z2 := O1.free 2
      clear hRk he
      replace hend := hide hend
      by_cases h64 : a.length ≤ 64
      · have h64I : (a.length : Int) ≤ 64 := by omega
        have f1 : ptV R = (2, 0, ⟨a.toArray⟩) := by rw [hR2]; unfold ptV; simp only; rw [if_pos h64]
        have f2 : ptE R = 0 := by rw [hR2]; unfold ptE; simp only; rw [if_pos h64]
        replace f1 := hide f1
        replace f2 := hide f2
        have hvt := hide (fun w => vrefText_c ⟨a.toArray⟩ w)
        clear hR2 h64
        go_wp2_with (go_at_call 22; (with_reducible refine seq_gw (hvt.out _) ?_); intro g2)
        refine bodyPost_ret (by simp [results, Tryd.results10, go_sem, k0, k1, k2]; try rfl) rfl ?_
        rw [f1.out, f2.out]
        exact ⟨rfl, ((((hXw.trans g2.grown)).setCell (Nat.le_refl _) _).setCell (Nat.le_refl _) _).setCell (Nat.le_refl _) _⟩
      · have h64I : (64 : Int) < (a.length : Int) := by omega
        have f1 : ptV R = (0, 0, ⟨#[]⟩) := by rw [hR2]; unfold ptV; simp only; rw [if_neg h64]
        have f2 : ptE R = 6 := by rw [hR2]; unfold ptE; simp only; rw [if_neg h64]
        replace f1 := hide f1
        replace f2 := hide f2
        clear hR2 h64 hcv
        go_wp2_with fail
        refine bodyPost_ret (by simp [results, Tryd.results10, go_sem, k0, k1, k2]; try rfl) rfl ?_
        rw [f1.out, f2.out]
        exact ⟨rfl, ((hXw.setCell (Nat.le_refl _) _).setCell (Nat.le_refl _) _).setCell (Nat.le_refl _) _⟩
    · have hcl : (k : Int) < (s.size : Int) - 1 := by omega
      obtain ⟨r, hr⟩ : ∃ r, r = s.extract k (s.size - 1) := ⟨_, rfl⟩
      rw [← hr] at hRk
      have hrd : r.data.toList = (s.data.toList.drop k).take (s.size - 1 - k) := by rw [hr, Lib.extract_data]
      have hrs : r.size = s.size - 1 - k := by rw [← size_lst, hrd, List.length_take, List.length_drop, size_lst]; omega
      obtain ⟨c, q, hcq⟩ : ∃ c q, r.data.toList = c :: q := by
        rcases h : r.data.toList with _ | ⟨c, q⟩
        · have := size_lst r; rw [h] at this; simp at this; omega
        · exact ⟨c, q, rfl⟩
      have hcode := hide (fun w => code_c r c q hcq w)
      have hf1 := cd_first1 c q
      rw [← hcq] at hf1
      have hrng := cd_range r.data.toList
      have hRc := hRk.out
      rw [unq_cons r.data.toList (by rw [hcq]; simp), hf1] at hRc
      have hlen : cdBad (cd r.data.toList) = false → 1 ≤ (cd r.data.toList).2 ∧ (cd r.data.toList).2 ≤ r.size := fun h => by
        rw [h] at hf1
        have := first1_len (c := (cd r.data.toList).1) (n := (cd r.data.toList).2) hf1
        rw [size_lst] at this
        exact ⟨this.1, this.2.2⟩
      have hnext : ∀ n, k + n ≤ s.size - 1 → (s.extract (k + n) (s.size - 1)).data.toList = r.data.toList.drop n := fun n hn => by
        rw [hrd, Lib.extract_data, List.drop_take, List.drop_drop]
        congr 1
        omega
      replace hr : s.extract k (s.size - 1) = r := hr.symm
      obtain ⟨⟨d, n⟩, hdn⟩ : ∃ p, cd r.data.toList = p := ⟨_, rfl⟩
      rw [hdn] at hcode hrng hRc hlen
      simp only at hrng hlen
      clear hf1 hdn hRk hcq hrd
      have hways := odd_ways d
      rcases hrng with rfl | rfl | rfl
      · rcases hways with ⟨hp, t1, t2, t3, t4⟩ | ⟨hp, t1⟩ | ⟨hp, t1, t2⟩ | ⟨hp, t1, t2, t3⟩ | ⟨hp, t1, t2, t3, t4⟩
        · have hbad : cdBad (d, 0) = true := by unfold cdBad; rw [hp]; rfl
          rw [hbad] at hRc
          replace hRc : R = none := hRc
          replace hRc := hide hRc
          have k0 := O1.cell 0 rfl; have k1 := O1.cell 1 rfl; have k2 := O1.cell 2 rfl; have z0 := O1.free 0; have z1 := O1.free 1; have z2 := O1.free 2
          clear hp hbad hlen hnext hend
          go_wp2_with (go_at_call 21; (with_reducible refine seq_gw (hcode.out _) ?_); intro g)
          refine bodyPost_ret (by simp [results, Tryd.results10, go_sem, k0, k1, k2]; try rfl) rfl ?_
          rw [hRc.out]
          exact ⟨rfl, (((hXw.trans g.grown).setCell (Nat.le_refl _) _).setCell (Nat.le_refl _) _).setCell (Nat.le_refl _) _⟩
        · have hbad : cdBad (d, 0) = true := by unfold cdBad; rw [hp]; rfl
          rw [hbad] at hRc
          replace hRc : R = none := hRc
          replace hRc := hide hRc
          have k0 := O1.cell 0 rfl; have k1 := O1.cell 1 rfl; have k2 := O1.cell 2 rfl; have z0 := O1.free 0; have z1 := O1.free 1; have z2 := O1.free 2
          clear hp hbad hlen hnext hend
          go_wp2_with (go_at_call 21; (with_reducible refine seq_gw (hcode.out _) ?_); intro g)
          refine bodyPost_ret (by simp [results, Tryd.results10, go_sem, k0, k1, k2]; try rfl) rfl ?_
          rw [hRc.out]
          exact ⟨rfl, (((hXw.trans g.grown).setCell (Nat.le_refl _) _).setCell (Nat.le_refl _) _).setCell (Nat.le_refl _) _⟩
        · have hbad : cdBad (d, 0) = true := by unfold cdBad; rw [hp]; rfl
          rw [hbad] at hRc
          replace hRc : R = none := hRc
          replace hRc := hide hRc
          have k0 := O1.cell 0 rfl; have k1 := O1.cell 1 rfl; have k2 := O1.cell 2 rfl; have z0 := O1.free 0; have z1 := O1.free 1; have z2 := O1.free 2
          clear hp hbad hlen hnext hend
          go_wp2_with (go_at_call 21; (with_reducible refine seq_gw (hcode.out _) ?_); intro g)
          refine bodyPost_ret (by simp [results, Tryd.results10, go_sem, k0, k1, k2]; try rfl) rfl ?_
          rw [hRc.out]
          exact ⟨rfl, (((hXw.trans g.grown).setCell (Nat.le_refl _) _).setCell (Nat.le_refl _) _).setCell (Nat.le_refl _) _⟩
        · have hbad : cdBad (d, 0) = true := by unfold cdBad; rw [hp]; rfl
          rw [hbad] at hRc
          replace hRc : R = none := hRc
          replace hRc := hide hRc
          have k0 := O1.cell 0 rfl; have k1 := O1.cell 1 rfl; have k2 := O1.cell 2 rfl; have z0 := O1.free 0; have z1 := O1.free 1; have z2 := O1.free 2
          clear hp hbad hlen hnext hend
          go_wp2_with (go_at_call 21; (with_reducible refine seq_gw (hcode.out _) ?_); intro g)
          refine bodyPost_ret (by simp [results, Tryd.results10, go_sem, k0, k1, k2]; try rfl) rfl ?_
          rw [hRc.out]
          exact ⟨rfl, (((hXw.trans g.grown).setCell (Nat.le_refl _) _).setCell (Nat.le_refl _) _).setCell (Nat.le_refl _) _⟩
        · have hbad : cdBad (d, 0) = true := by unfold cdBad; rw [hp]; rfl
          rw [hbad] at hRc
          replace hRc : R = none := hRc
          replace hRc := hide hRc
          have k0 := O1.cell 0 rfl; have k1 := O1.cell 1 rfl; have k2 := O1.cell 2 rfl; have z0 := O1.free 0; have z1 := O1.free 1; have z2 := O1.free 2
          clear hp hbad hlen hnext hend
          go_wp2_with (go_at_call 21; (with_reducible refine seq_gw (hcode.out _) ?_); intro g)
          refine bodyPost_ret (by simp [results, Tryd.results10, go_sem, k0, k1, k2]; try rfl) rfl ?_
          rw [hRc.out]
          exact ⟨rfl, (((hXw.trans g.grown).setCell (Nat.le_refl _) _).setCell (Nat.le_refl _) _).setCell (Nat.le_refl _) _⟩
      · rcases hways with ⟨hp, t1, t2, t3, t4⟩ | ⟨hp, t1⟩ | ⟨hp, t1, t2⟩ | ⟨hp, t1, t2, t3⟩ | ⟨hp, t1, t2, t3, t4⟩
        · have hbad : cdBad (d, 1) = false := by unfold cdBad; rw [hp]; rfl
          rw [hbad] at hRc
          have hl2 := hlen hbad
          have hRn : Hid (R = (unq (s.extract (k + 1) (s.size - 1)).data.toList).map ((a ++ [d]) ++ ·)) := by
            show R = _
            rw [hnext 1 (by omega), hRc]
            show ((unq (r.data.toList.drop 1)).map (d :: ·)).map (a ++ ·) = _
            rw [Option.map_map]
            congr 1
            funext z
            simp
          have hb1 : (k : Int) + 1 ≤ (s.size : Int) - 1 := by omega
          clear hp hbad hRc hlen hnext hend
          go_wp2_with (first | (go_at_call 21; (with_reducible refine seq_gw (hcode.out _) ?_); intro g) | (at_builtin; refine wpl_app tBytes' rfl (.tmp 79) (.tmp 81) rfl rfl (own_alloc' (own_ext ho g.grown) _) rfl (src_one Tryd.underlying41 _ _ _ rfl) (by unfold maxLen; omega) (by omega) (by simp only [World.size_alloc]; have := GW.size g; omega) ?_; intro v1 w1 ho1 hg1 _))
          go_roundg (s.size - (k + 1))
          case measure => omega
          case rel =>
            have ho2 : OwnB w1 (w.heap.size + 1) v1 (a ++ [d]) := own_app (m := [d]) ho1
            exact ⟨k + 1, a ++ [d], by go_num, by omega, by omega, Nat.le_refl _, by rw [List.length_append, List.length_singleton]; omega, ho2, hRn, ext_grown ((hX.trans g.grown).alloc _) hg1 (fun k hk => by have := (ho.lt k hk).1; simp only [World.size_alloc]; omega)⟩
        · have hbad : cdBad (d, 1) = true := by unfold cdBad; rw [hp]; rfl
          rw [hbad] at hRc
          replace hRc : R = none := hRc
          replace hRc := hide hRc
          have k0 := O1.cell 0 rfl; have k1 := O1.cell 1 rfl; have k2 := O1.cell 2 rfl; have z0 := O1.free 0; have z1 := O1.free 1; have z2 := O1.free 2
          clear hp hbad hlen hnext hend
          go_wp2_with (go_at_call 21; (with_reducible refine seq_gw (hcode.out _) ?_); intro g)
          refine bodyPost_ret (by simp [results, Tryd.results10, go_sem, k0, k1, k2]; try rfl) rfl ?_
          rw [hRc.out]
          exact ⟨rfl, (((hXw.trans g.grown).setCell (Nat.le_refl _) _).setCell (Nat.le_refl _) _).setCell (Nat.le_refl _) _⟩
        · have hbad : cdBad (d, 1) = true := by unfold cdBad; rw [hp]; rfl
          rw [hbad] at hRc
          replace hRc : R = none := hRc
          replace hRc := hide hRc
          have k0 := O1.cell 0 rfl; have k1 := O1.cell 1 rfl; have k2 := O1.cell 2 rfl; have z0 := O1.free 0; have z1 := O1.free 1; have z2 := O1.free 2
          clear hp hbad hlen hnext hend
          go_wp2_with (go_at_call 21; (with_reducible refine seq_gw (hcode.out _) ?_); intro g)
          refine bodyPost_ret (by simp [results, Tryd.results10, go_sem, k0, k1, k2]; try rfl) rfl ?_
          rw [hRc.out]
          exact ⟨rfl, (((hXw.trans g.grown).setCell (Nat.le_refl _) _).setCell (Nat.le_refl _) _).setCell (Nat.le_refl _) _⟩
        · have hbad : cdBad (d, 1) = true := by unfold cdBad; rw [hp]; rfl
          rw [hbad] at hRc
          replace hRc : R = none := hRc
          replace hRc := hide hRc
          have k0 := O1.cell 0 rfl; have k1 := O1.cell 1 rfl; have k2 := O1.cell 2 rfl; have z0 := O1.free 0; have z1 := O1.free 1; have z2 := O1.free 2
          clear hp hbad hlen hnext hend
          go_wp2_with (go_at_call 21; (with_reducible refine seq_gw (hcode.out _) ?_); intro g)
          refine bodyPost_ret (by simp [results, Tryd.results10, go_sem, k0, k1, k2]; try rfl) rfl ?_
          rw [hRc.out]
          exact ⟨rfl, (((hXw.trans g.grown).setCell (Nat.le_refl _) _).setCell (Nat.le_refl _) _).setCell (Nat.le_refl _) _⟩
        · have hbad : cdBad (d, 1) = true := by unfold cdBad; rw [hp]; rfl
          rw [hbad] at hRc
          replace hRc : R = none := hRc
          replace hRc := hide hRc
          have k0 := O1.cell 0 rfl; have k1 := O1.cell 1 rfl; have k2 := O1.cell 2 rfl; have z0 := O1.free 0; have z1 := O1.free 1; have z2 := O1.free 2
          clear hp hbad hlen hnext hend
          go_wp2_with (go_at_call 21; (with_reducible refine seq_gw (hcode.out _) ?_); intro g)
          refine bodyPost_ret (by simp [results, Tryd.results10, go_sem, k0, k1, k2]; try rfl) rfl ?_
          rw [hRc.out]
          exact ⟨rfl, (((hXw.trans g.grown).setCell (Nat.le_refl _) _).setCell (Nat.le_refl _) _).setCell (Nat.le_refl _) _⟩
      · rcases hways with ⟨hp, t1, t2, t3, t4⟩ | ⟨hp, t1⟩ | ⟨hp, t1, t2⟩ | ⟨hp, t1, t2, t3⟩ | ⟨hp, t1, t2, t3, t4⟩
        · have hbad : cdBad (d, 3) = true := by unfold cdBad; rw [hp]; rfl
          rw [hbad] at hRc
          replace hRc : R = none := hRc
          replace hRc := hide hRc
          have k0 := O1.cell 0 rfl; have k1 := O1.cell 1 rfl; have k2 := O1.cell 2 rfl; have z0 := O1.free 0; have z1 := O1.free 1; have z2 := O1.free 2
          clear hp hbad hlen hnext hend
          go_wp2_with (go_at_call 21; (with_reducible refine seq_gw (hcode.out _) ?_); intro g)
          refine bodyPost_ret (by simp [results, Tryd.results10, go_sem, k0, k1, k2]; try rfl) rfl ?_
          rw [hRc.out]
          exact ⟨rfl, (((hXw.trans g.grown).setCell (Nat.le_refl _) _).setCell (Nat.le_refl _) _).setCell (Nat.le_refl _) _⟩
        · have hbad : cdBad (d, 3) = false := by unfold cdBad; rw [hp]; rfl
          rw [hbad] at hRc
          have hl2 := hlen hbad
          have hRn : Hid (R = (unq (s.extract (k + 3) (s.size - 1)).data.toList).map ((a ++ [d]) ++ ·)) := by
            show R = _
            rw [hnext 3 (by omega), hRc]
            show ((unq (r.data.toList.drop 3)).map (d :: ·)).map (a ++ ·) = _
            rw [Option.map_map]
            congr 1
            funext z
            simp
          have hb1 : (k : Int) + 3 ≤ (s.size : Int) - 1 := by omega
          clear hp hbad hRc hlen hnext hend
          go_wp2_with (first | (go_at_call 21; (with_reducible refine seq_gw (hcode.out _) ?_); intro g) | (at_builtin; refine wpl_app tBytes' rfl (.tmp 79) (.tmp 81) rfl rfl (own_alloc' (own_ext ho g.grown) _) rfl (src_one Tryd.underlying41 _ _ _ rfl) (by unfold maxLen; omega) (by omega) (by simp only [World.size_alloc]; have := GW.size g; omega) ?_; intro v1 w1 ho1 hg1 _))
          go_roundg (s.size - (k + 3))
          case measure => omega
          case rel =>
            have ho2 : OwnB w1 (w.heap.size + 1) v1 (a ++ [d]) := own_app (m := [d]) ho1
            exact ⟨k + 3, a ++ [d], by go_num, by omega, by omega, Nat.le_refl _, by rw [List.length_append, List.length_singleton]; omega, ho2, hRn, ext_grown ((hX.trans g.grown).alloc _) hg1 (fun k hk => by have := (ho.lt k hk).1; simp only [World.size_alloc]; omega)⟩
        · have hbad : cdBad (d, 3) = false := by unfold cdBad; rw [hp]; rfl
          rw [hbad] at hRc
          have hl2 := hlen hbad
          have hRn : Hid (R = (unq (s.extract (k + 3) (s.size - 1)).data.toList).map ((a ++ [d]) ++ ·)) := by
            show R = _
            rw [hnext 3 (by omega), hRc]
            show ((unq (r.data.toList.drop 3)).map (d :: ·)).map (a ++ ·) = _
            rw [Option.map_map]
            congr 1
            funext z
            simp
          have hb1 : (k : Int) + 3 ≤ (s.size : Int) - 1 := by omega
          clear hp hbad hRc hlen hnext hend
          go_wp2_with (first | (go_at_call 21; (with_reducible refine seq_gw (hcode.out _) ?_); intro g) | (at_builtin; refine wpl_app tBytes' rfl (.tmp 79) (.tmp 81) rfl rfl (own_alloc' (own_ext ho g.grown) _) rfl (src_one Tryd.underlying41 _ _ _ rfl) (by unfold maxLen; omega) (by omega) (by simp only [World.size_alloc]; have := GW.size g; omega) ?_; intro v1 w1 ho1 hg1 _))
          go_roundg (s.size - (k + 3))
          case measure => omega
          case rel =>
            have ho2 : OwnB w1 (w.heap.size + 1) v1 (a ++ [d]) := own_app (m := [d]) ho1
            exact ⟨k + 3, a ++ [d], by go_num, by omega, by omega, Nat.le_refl _, by rw [List.length_append, List.length_singleton]; omega, ho2, hRn, ext_grown ((hX.trans g.grown).alloc _) hg1 (fun k hk => by have := (ho.lt k hk).1; simp only [World.size_alloc]; omega)⟩
        · have hbad : cdBad (d, 3) = false := by unfold cdBad; rw [hp]; rfl
          rw [hbad] at hRc
          have hl2 := hlen hbad
          have hRn : Hid (R = (unq (s.extract (k + 3) (s.size - 1)).data.toList).map ((a ++ [d]) ++ ·)) := by
            show R = _
            rw [hnext 3 (by omega), hRc]
            show ((unq (r.data.toList.drop 3)).map (d :: ·)).map (a ++ ·) = _
            rw [Option.map_map]
            congr 1
            funext z
            simp
          have hb1 : (k : Int) + 3 ≤ (s.size : Int) - 1 := by omega
          clear hp hbad hRc hlen hnext hend
          go_wp2_with (first | (go_at_call 21; (with_reducible refine seq_gw (hcode.out _) ?_); intro g) | (at_builtin; refine wpl_app tBytes' rfl (.tmp 79) (.tmp 81) rfl rfl (own_alloc' (own_ext ho g.grown) _) rfl (src_one Tryd.underlying41 _ _ _ rfl) (by unfold maxLen; omega) (by omega) (by simp only [World.size_alloc]; have := GW.size g; omega) ?_; intro v1 w1 ho1 hg1 _))
          go_roundg (s.size - (k + 3))
          case measure => omega
          case rel =>
            have ho2 : OwnB w1 (w.heap.size + 1) v1 (a ++ [d]) := own_app (m := [d]) ho1
            exact ⟨k + 3, a ++ [d], by go_num, by omega, by omega, Nat.le_refl _, by rw [List.length_append, List.length_singleton]; omega, ho2, hRn, ext_grown ((hX.trans g.grown).alloc _) hg1 (fun k hk => by have := (ho.lt k hk).1; simp only [World.size_alloc]; omega)⟩
        · have hbad : cdBad (d, 3) = false := by unfold cdBad; rw [hp]; rfl
          rw [hbad] at hRc
          have hl2 := hlen hbad
          have hRn : Hid (R = (unq (s.extract (k + 3) (s.size - 1)).data.toList).map ((a ++ [d]) ++ ·)) := by
            show R = _
            rw [hnext 3 (by omega), hRc]
            show ((unq (r.data.toList.drop 3)).map (d :: ·)).map (a ++ ·) = _
            rw [Option.map_map]
            congr 1
            funext z
            simp
          have hb1 : (k : Int) + 3 ≤ (s.size : Int) - 1 := by omega
          clear hp hbad hRc hlen hnext hend
          go_wp2_with (first | (go_at_call 21; (with_reducible refine seq_gw (hcode.out _) ?_); intro g) | (at_builtin; refine wpl_app tBytes' rfl (.tmp 79) (.tmp 81) rfl rfl (own_alloc' (own_ext ho g.grown) _) rfl (src_one Tryd.underlying41 _ _ _ rfl) (by unfold maxLen; omega) (by omega) (by simp only [World.size_alloc]; have := GW.size g; omega) ?_; intro v1 w1 ho1 hg1 _))
          go_roundg (s.size - (k + 3))
          case measure => omega
          case rel =>
            have ho2 : OwnB w1 (w.heap.size + 1) v1 (a ++ [d]) := own_app (m := [d]) ho1
            exact ⟨k + 3, a ++ [d], by go_num, by omega, by omega, Nat.le_refl _, by rw [List.length_append, List.length_singleton]; omega, ho2, hRn, ext_grown ((hX.trans g.grown).alloc _) hg1 (fun k hk => by have := (ho.lt k hk).1; simp only [World.size_alloc]; omega)⟩
theorem refParse_c (s : ByteArray) (hs : s.size ≤ 140737488351232) (w : World) : Calls Tryd.prog 10 #[.string s] w fun e w' => e = .returned (.tuple #[vlv (paV s.data.toList), .int .i64 (paE s.data.toList)]) ∧ Ext w w' := by
  by_cases hh : s.data.toList.head? = some 39
  · have e1 : paV s.data.toList = ptV (unqT s.data.toList) := if_pos hh
    have e2 : paE s.data.toList = ptE (unqT s.data.toList) := if_pos hh
    rw [e1, e2]
    rcases hl : s.data.toList with _ | ⟨c, r⟩
    · rw [hl] at hh; cases hh
    · rw [hl] at hh
      have hc : c = 39 := by simpa using hh
      have h39 : c.toNat = 39 := by rw [hc]; rfl
      rw [← hl]
      by_cases h : s.size < 2 ∨ (s.data.toList.getD (s.size - 1) 0).toNat ≠ 39
      · have e : unqT s.data.toList = none := by
          unfold unqT
          rw [size_lst]
          rcases h with h | h
          · rw [if_pos h]
          · rw [if_neg h]; split <;> rfl
        rw [e]
        exact refParse_short s hs c r hl h39 h w
      · have h2 : ¬ s.size < 2 := fun k => h (.inl k)
        have h9 : (s.data.toList.getD (s.size - 1) 0).toNat = 39 := by
          refine Classical.byContradiction fun k => h (.inr k)
        have e : unqT s.data.toList = unq (mid s.data.toList) := by
          unfold unqT
          rw [size_lst, if_neg h2, if_pos h9]
        rw [e]
        exact refParse_long s hs c r hl h39 (by omega) h9 w
  · exact refParse_num s hs hh w
end Go.Proofs.YtpfcmlmljolplaaDoor
