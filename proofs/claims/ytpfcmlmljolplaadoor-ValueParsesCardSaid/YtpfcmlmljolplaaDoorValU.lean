/-
  A helper of ours: no claim of its own. Layer 5 (value): what is meant by a text that is written, by the code.
-/
import Derived.Test.YtpfcmlmljolplaaDoorValP
import Derived.Test.YtpfcmlmljolplaaDoorValE
import Derived.Test.YtpfcmlmljolplaaDoorShelf
set_option linter.unusedVariables false
set_option linter.unusedSimpArgs false
namespace Go.Proofs.YtpfcmlmljolplaaDoor
open Go.RowKit
attribute [local go_sem] GW.cell GW.frozen In.eq_true In.le_true In.ne In.ne' In.ne_add In.ne_add' In.lt_add Upto.le_true Upto.le_add Upto.lt_add
theorem index_c (c : UInt8) (w : World) : Calls Tryd.prog 34 #[.string ⟨#[48, 49, 50, 51, 52, 53, 54, 55, 56, 57, 97, 98, 99, 100, 101, 102]⟩, .int .u8 c.toNat] w fun e w' => e = .returned (.int .i64 (hexI (hexAt c))) ∧ Ext w w' := by
  refine (Tryd.strings_IndexByte _ c.toNat w).mono ?_
  rintro e w' ⟨rfl, rfl⟩
  refine ⟨?_, Ext.refl _⟩
  have e1 : (c.toNat : Int).toNat.toUInt8 = c := by
    rw [Int.toNat_natCast]; exact UInt8.ofNat_toNat
  have e2 := index_hex c
  unfold hexS at e2
  rw [e1, e2]
/-- The byte that is written first, and how many bytes it takes. -/
def fb (l : List UInt8) : UInt8 × Nat := (first1 l).getD (0, 0)
theorem size_lst (s : ByteArray) : s.data.toList.length = s.size := by rw [Array.length_toList]; rfl
theorem str_at {s : ByteArray} {i : Nat} {c : UInt8} (h : s.data.toList[i]? = some c) : ∃ hi : i < s.size, s[i] = c := by
  have hi := (List.getElem?_eq_some_iff.1 h).1
  have hi' : i < s.size := by rw [← size_lst]; exact hi
  rw [List.getElem?_eq_getElem hi] at h
  exact ⟨hi', Option.some.inj h⟩
theorem shl4_all : ∀ a b : Fin 16, bits .or .i64 ((a.val : Int) * 16) (b.val : Int) % 256 = ((16 * a.val + b.val : Nat) : Int) := by decide +kernel
set_option maxHeartbeats 1000000 in
set_option maxRecDepth 100000 in
theorem firstByte_plain (s : ByteArray) (c : UInt8) (r : List UInt8) (hs : s.data.toList = c :: r) (hp : plainB c = true) (w : World) : Calls Tryd.prog 29 #[.string s] w fun e w' => e = .returned (.tuple #[.int .u8 c.toNat, .int .i64 1]) ∧ Ext w w' := by
  obtain ⟨hpos, h0⟩ := str_at (i := 0) (by rw [hs]; rfl)
  have hp0 := hide (fun w => isPlain_c c w)
  rw [hp] at hp0
  replace h0 := hide h0
  clear hs hp
  go_enter Tryd.func29, Tryd.ntmps29
  go_wp2_with (go_at_call 33; rw [h0.out]; with_reducible refine seq_gw (hp0.out _) ?_; intro g)
  go_returns
  rw [h0.out]
  exact ⟨rfl, g.grown⟩
set_option maxHeartbeats 1000000 in
set_option maxRecDepth 100000 in
theorem firstByte_other (s : ByteArray) (c : UInt8) (r : List UInt8) (hs : s.data.toList = c :: r) (hp : plainB c = false) (h92 : c.toNat ≠ 92 ∨ s.size < 3) (w : World) : Calls Tryd.prog 29 #[.string s] w fun e w' => e = .returned (.tuple #[.int .u8 0, .int .i64 0]) ∧ Ext w w' := by
  obtain ⟨hpos, h0⟩ := str_at (i := 0) (by rw [hs]; rfl)
  have hp0 := hide (fun w => isPlain_c c w)
  rw [hp] at hp0
  clear hs hp
  by_cases h9 : c.toNat = 92
  · have e1 : ((s[0].toNat : Int) != 92) = false := by rw [h0, h9]; rfl
    have e2 : decide ((s.size : Int) < 3) = true := by rw [decide_eq_true_iff]; omega
    replace h0 := hide h0
    replace h9 := hide h9
    clear h92
    go_enter Tryd.func29, Tryd.ntmps29
    go_wp2_with (go_at_call 33; rw [h0.out]; with_reducible refine seq_gw (hp0.out _) ?_; intro g)
    go_returns
    exact ⟨rfl, g.grown⟩
  · have e1 : ((s[0].toNat : Int) != 92) = true := by rw [h0]; simp; omega
    replace h0 := hide h0
    replace h9 := hide h9
    clear h92
    go_enter Tryd.func29, Tryd.ntmps29
    go_wp2_with (go_at_call 33; rw [h0.out]; with_reducible refine seq_gw (hp0.out _) ?_; intro g)
    go_returns
    exact ⟨rfl, g.grown⟩
theorem hexI_neg {x : Option Nat} (h : x = none) : decide (hexI x < 0) = true := by subst h; rfl
theorem hexI_pos {x : Option Nat} {n : Nat} (h : x = some n) : decide (hexI x < 0) = false := by subst h; show decide ((n : Int) < 0) = false; rw [decide_eq_false_iff_not]; omega
set_option maxHeartbeats 1000000 in
set_option maxRecDepth 100000 in
theorem firstByte_none (s : ByteArray) (c x y : UInt8) (q : List UInt8) (hs : s.data.toList = c :: x :: y :: q) (hp : plainB c = false) (h92 : c.toNat = 92) (hn : hexAt x = none ∨ hexAt y = none) (w : World) : Calls Tryd.prog 29 #[.string s] w fun e w' => e = .returned (.tuple #[.int .u8 0, .int .i64 0]) ∧ Ext w w' := by
  obtain ⟨hpos, h0⟩ := str_at (i := 0) (by rw [hs]; rfl)
  obtain ⟨hpos1, h1⟩ := str_at (i := 1) (by rw [hs]; rfl)
  obtain ⟨hpos2, h2⟩ := str_at (i := 2) (by rw [hs]; rfl)
  have hp0 := hide (fun w => isPlain_c c w)
  have i1 := hide (fun w => index_c x w)
  have i2 := hide (fun w => index_c y w)
  rw [hp] at hp0
  have e1 : ((s[0].toNat : Int) != 92) = false := by rw [h0, h92]; rfl
  have e2 : decide ((s.size : Int) < 3) = false := by rw [decide_eq_false_iff_not]; omega
  have hI1 : (1 : Int) < s.size := by omega
  have hI2 : (2 : Int) < s.size := by omega
  clear hs hp
  by_cases hx : hexAt x = none
  · have f1 := hexI_neg hx
    generalize hexI (hexAt x) = u at *
    generalize hexI (hexAt y) = v at *
    clear hn hx
    replace h0 := hide h0
    replace h1 := hide h1
    replace h2 := hide h2
    replace h92 := hide h92
    go_enter Tryd.func29, Tryd.ntmps29
    go_wp2_with (go_at_call 33; rw [h0.out]; with_reducible refine seq_gw (hp0.out _) ?_; intro g)
    refine wp_region_gw (by kernel_rfl) (by kernel_rfl) ?_
    repeat (go_big_quiet_step (first | (go_at_call 34; rw [h1.out]; with_reducible exact quiet_gw (i1.out _)) | (go_at_call 34; rw [h2.out]; with_reducible exact quiet_gw (i2.out _))))
    refine wpQuiet_nil ?_
    intro g2
    go_wp2_with fail
    go_returns
    exact ⟨rfl, g.grown.trans g2.grown⟩
  · obtain ⟨n, hx'⟩ : ∃ n, hexAt x = some n := by cases h : hexAt x with | none => exact absurd h hx | some n => exact ⟨n, rfl⟩
    have f1 := hexI_pos hx'
    have f2 := hexI_neg (hn.resolve_left hx)
    generalize hexI (hexAt x) = u at *
    generalize hexI (hexAt y) = v at *
    clear hn hx hx'
    replace h0 := hide h0
    replace h1 := hide h1
    replace h2 := hide h2
    replace h92 := hide h92
    go_enter Tryd.func29, Tryd.ntmps29
    go_wp2_with (go_at_call 33; rw [h0.out]; with_reducible refine seq_gw (hp0.out _) ?_; intro g)
    refine wp_region_gw (by kernel_rfl) (by kernel_rfl) ?_
    repeat (go_big_quiet_step (first | (go_at_call 34; rw [h1.out]; with_reducible exact quiet_gw (i1.out _)) | (go_at_call 34; rw [h2.out]; with_reducible exact quiet_gw (i2.out _))))
    refine wpQuiet_nil ?_
    intro g2
    go_wp2_with fail
    go_returns
    exact ⟨rfl, g.grown.trans g2.grown⟩
set_option maxHeartbeats 1000000 in
set_option maxRecDepth 100000 in
theorem firstByte_pair (s : ByteArray) (c x y : UInt8) (q : List UInt8) (hs : s.data.toList = c :: x :: y :: q) (hp : plainB c = false) (h92 : c.toNat = 92) (a b : Nat) (hx : hexAt x = some a) (hy : hexAt y = some b) (w : World) :
    Calls Tryd.prog 29 #[.string s] w fun e w' => e = .returned (.tuple #[.int .u8 (if plainB (hexV a b) then 0 else (hexV a b).toNat), .int .i64 (if plainB (hexV a b) then 0 else 3)]) ∧ Ext w w' := by
  obtain ⟨hpos, h0⟩ := str_at (i := 0) (by rw [hs]; rfl)
  obtain ⟨hpos1, h1⟩ := str_at (i := 1) (by rw [hs]; rfl)
  obtain ⟨hpos2, h2⟩ := str_at (i := 2) (by rw [hs]; rfl)
  have hp0 := hide (fun w => isPlain_c c w)
  have i1 := hide (fun w => index_c x w)
  have i2 := hide (fun w => index_c y w)
  rw [hp] at hp0
  rw [hx] at i1
  rw [hy] at i2
  have e1 : ((s[0].toNat : Int) != 92) = false := by rw [h0, h92]; rfl
  have e2 : decide ((s.size : Int) < 3) = false := by rw [decide_eq_false_iff_not]; omega
  have hI1 : (1 : Int) < s.size := by omega
  have hI2 : (2 : Int) < s.size := by omega
  have la := hexAt_lt hx
  have lb := hexAt_lt hy
  have f1 : decide ((a : Int) < 0) = false := by simp
  have f2 : decide ((b : Int) < 0) = false := by simp
  have hor := hide (shl4_all ⟨a, la⟩ ⟨b, lb⟩)
  have hv : (hexV a b).toNat = 16 * a + b := by unfold hexV; rw [UInt8.toNat_ofNat']; exact Nat.mod_eq_of_lt (by omega)
  have hpv := hide (fun w => isPlain_c (hexV a b) w)
  rw [hv] at hpv
  rw [hv]
  clear hs hp hx hy hv
  replace h0 := hide h0
  replace h1 := hide h1
  replace h2 := hide h2
  replace h92 := hide h92
  cases hpb : plainB (hexV a b)
  · rw [hpb] at hpv
    clear hpb
    go_enter Tryd.func29, Tryd.ntmps29
    go_wp2_with (go_at_call 33; rw [h0.out]; with_reducible refine seq_gw (hp0.out _) ?_; intro g)
    refine wp_region_gw (by kernel_rfl) (by kernel_rfl) ?_
    repeat (go_big_quiet_step (first | (go_at_call 34; rw [h1.out]; with_reducible exact quiet_gw (i1.out _)) | (go_at_call 34; rw [h2.out]; with_reducible exact quiet_gw (i2.out _))))
    refine wpQuiet_nil ?_
    intro g2
    simp only [hexI]
    go_wp2_with (go_at_call 33; rw [hor.out]; with_reducible refine seq_gw' (hpv.out _) ?_; intro g3)
    go_returns
    exact ⟨rfl, g.grown.trans g3.grown⟩
  · rw [hpb] at hpv
    clear hpb
    go_enter Tryd.func29, Tryd.ntmps29
    go_wp2_with (go_at_call 33; rw [h0.out]; with_reducible refine seq_gw (hp0.out _) ?_; intro g)
    refine wp_region_gw (by kernel_rfl) (by kernel_rfl) ?_
    repeat (go_big_quiet_step (first | (go_at_call 34; rw [h1.out]; with_reducible exact quiet_gw (i1.out _)) | (go_at_call 34; rw [h2.out]; with_reducible exact quiet_gw (i2.out _))))
    refine wpQuiet_nil ?_
    intro g2
    simp only [hexI]
    go_wp2_with (go_at_call 33; rw [hor.out]; with_reducible refine seq_gw' (hpv.out _) ?_; intro g3)
    go_returns
    exact ⟨rfl, g.grown.trans g3.grown⟩
theorem firstByte_c (s : ByteArray) (c : UInt8) (r : List UInt8) (hs : s.data.toList = c :: r) (w : World) : Calls Tryd.prog 29 #[.string s] w fun e w' => e = .returned (.tuple #[.int .u8 (fb s.data.toList).1.toNat, .int .i64 ((fb s.data.toList).2 : Nat)]) ∧ Ext w w' := by
  have hsz := size_lst s
  cases hp : plainB c
  · by_cases h92 : c.toNat = 92
    · rcases r with _ | ⟨x, _ | ⟨y, q⟩⟩
      · have e : fb s.data.toList = (0, 0) := by unfold fb; rw [hs, first1_cons, hp, if_neg (by decide), if_pos h92]; rfl
        rw [e]
        exact firstByte_other s c _ hs hp (.inr (by rw [← hsz, hs]; simp)) w
      · have e : fb s.data.toList = (0, 0) := by unfold fb; rw [hs, first1_cons, hp, if_neg (by decide), if_pos h92]; rfl
        rw [e]
        exact firstByte_other s c _ hs hp (.inr (by rw [← hsz, hs]; simp)) w
      · cases hx : hexAt x with
        | none =>
          have e : fb s.data.toList = (0, 0) := by unfold fb; rw [hs, first1_cons, hp, if_neg (by decide), if_pos h92]; simp [pair1, hx]
          rw [e]
          exact firstByte_none s c x y q hs hp h92 (.inl hx) w
        | some a =>
          cases hy : hexAt y with
          | none =>
            have e : fb s.data.toList = (0, 0) := by unfold fb; rw [hs, first1_cons, hp, if_neg (by decide), if_pos h92]; simp [pair1, hx, hy]
            rw [e]
            exact firstByte_none s c x y q hs hp h92 (.inr hy) w
          | some b =>
            have hh := firstByte_pair s c x y q hs hp h92 a b hx hy w
            have e : fb s.data.toList = if plainB (hexV a b) then (0, 0) else (hexV a b, 3) := by
              unfold fb; rw [hs, first1_cons, hp, if_neg (by decide), if_pos h92, pair1_cons x y q hx hy]; split <;> rfl
            rw [e]
            cases hv : plainB (hexV a b)
            · rw [hv] at hh; exact hh
            · rw [hv] at hh; exact hh
    · have e : fb s.data.toList = (0, 0) := by unfold fb; rw [hs, first1_cons, hp, if_neg (by decide), if_neg h92]; rfl
      rw [e]
      exact firstByte_other s c r hs hp (.inl h92) w
  · have e : fb s.data.toList = (c, 1) := by unfold fb; rw [hs, first1_cons, hp, if_pos rfl]; rfl
    rw [e]
    exact firstByte_plain s c r hs hp w
/-- What stands between the quotes. -/
def mid (l : List UInt8) : List UInt8 := (l.drop 1).take (l.length - 1 - 1)
/-- What a text in quotes means. -/
def unqT (l : List UInt8) : Option (List UInt8) := if l.length < 2 then none else if (l.getD (l.length - 1) 0).toNat = 39 then unq (mid l) else none
def optS : Option (List UInt8) → Value
  | some t => .tuple #[.string ⟨t.toArray⟩, .bool true]
  | none => .tuple #[.string ⟨#[]⟩, .bool false]
theorem last_at {s : ByteArray} (hi : s.size - 1 < s.size) : s[s.size - 1] = s.data.toList.getD (s.size - 1) 0 := by
  rw [List.getD_eq_getElem?_getD, List.getElem?_eq_getElem (by rw [size_lst]; omega)]
  rfl
set_option maxHeartbeats 1000000 in
set_option maxRecDepth 100000 in
theorem unquote_short (s : ByteArray) (hs : s.size ≤ 140737488351232) (h : s.size < 2 ∨ (s.data.toList.getD (s.size - 1) 0).toNat ≠ 39) (w : World) : Calls Tryd.prog 23 #[.string s] w fun e w' => e = .returned (optS none) ∧ Ext w w' := by
  unfold optS
  have hsI : (s.size : Int) ≤ 140737488351232 := by omega
  by_cases h2 : s.size < 2
  · have e1 : decide ((s.size : Int) - 1 < 1) = true := by rw [decide_eq_true_iff]; omega
    have hI : (s.size : Int) < 2 := by omega
    clear h
    go_enter Tryd.func23, Tryd.ntmps23
    go_wp2_with fail
    go_returns
    exact ⟨rfl, Ext.refl w⟩
  · have h3 := h.resolve_left h2
    have hlt : s.size - 1 < s.size := by omega
    have e2 : ((s[s.size - 1].toNat : Int) != 39) = true := by
      rw [last_at hlt, bne_iff_ne]; omega
    have hI : (2 : Int) ≤ (s.size : Int) := by omega
    have hI1 : (1 : Int) ≤ (s.size : Int) - 1 := by omega
    clear h h3
    go_enter Tryd.func23, Tryd.ntmps23
    go_wp2_with fail
    go_returns
    exact ⟨rfl, Ext.refl w⟩
theorem mid_str (s : ByteArray) : (s.extract 1 (s.size - 1)).data.toList = mid s.data.toList := by
  rw [Lib.extract_data]
  unfold mid
  rw [size_lst]
theorem fb_some {l : List UInt8} {c : UInt8} {n : Nat} (h : first1 l = some (c, n)) : fb l = (c, n) := by unfold fb; rw [h]; rfl
theorem fb_none {l : List UInt8} (h : first1 l = none) : fb l = (0, 0) := by unfold fb; rw [h]; rfl
theorem esc_13 (c : UInt8) : (esc c).length = 1 ∨ (esc c).length = 3 := by unfold esc; split <;> simp
set_option maxHeartbeats 4000000 in
set_option maxRecDepth 100000 in
theorem unquote_long (s : ByteArray) (hs : s.size ≤ 140737488351232) (h2 : 2 ≤ s.size) (h9 : (s.data.toList.getD (s.size - 1) 0).toNat = 39) (w : World) : Calls Tryd.prog 23 #[.string s] w fun e w' => e = .returned (optS (unq (mid s.data.toList))) ∧ Ext w w' := by
  have hsI : (s.size : Int) ≤ 140737488351232 := by omega
  have hlt : s.size - 1 < s.size := by omega
  have e2 : ((s[s.size - 1].toNat : Int) != 39) = false := by
    rw [last_at hlt, h9]; rfl
  have hI : (2 : Int) ≤ (s.size : Int) := by omega
  have hI1 : (1 : Int) ≤ (s.size : Int) - 1 := by omega
  obtain ⟨t, ht⟩ : ∃ t, t = s.extract 1 (s.size - 1) := ⟨_, rfl⟩
  have hm := mid_str s
  rw [← ht] at hm
  have htl : t.size ≤ s.size := by rw [← size_lst t, hm, ← size_lst s]; unfold mid; simp; omega
  obtain ⟨R, hR⟩ : ∃ R, R = unq (mid s.data.toList) := ⟨_, rfl⟩
  rw [← hR]
  rw [← hm] at hR
  replace hR := hide hR
  replace ht : s.extract 1 (s.size - 1) = t := ht.symm
  clear hm h9
  go_enter Tryd.func23, Tryd.ntmps23
  go_wp2_with fail
  clear ht
  go_loopg [5, 6] t.size (fun g v x wr => ∃ (a : List UInt8) (r : ByteArray), x = .string r ∧ r.size ≤ g ∧ a.length + r.size ≤ t.size ∧ OwnB wr w.heap.size v a ∧ Hid (R = (unq r.data.toList).map (a ++ ·)) ∧ Ext w wr)
  case atStart => exact ⟨[], t, rfl, Nat.le_refl _, by simp, World.ownsRow_nil _ _ _ _, (by show R = (unq t.data.toList).map ([] ++ ·); rw [hR.out]; cases unq t.data.toList <;> simp), Ext.refl w⟩
  case round =>
    obtain ⟨a, r, rfl, hg, har, ho, hRk, hX⟩ := hrel
    clear hR
    rcases hrl : r.data.toList with _ | ⟨c, q⟩
    · have nE : r.toList = [] := by rw [Lib.toList_data]; exact hrl
      have nE2 : (r.toList == []) = true := by rw [nE]; rfl
      have hR2 := hRk.out
      rw [hrl] at hR2
      replace hR2 : R = some a := by rw [hR2]; show some (a ++ []) = some a; rw [List.append_nil]
      replace hR2 := hide hR2
      obtain ⟨A, cp, rfl⟩ := own_form ho
      have hcv := run_str (P := Tryd.prog) Tryd.underlying41 Tryd.underlying5 Tryd.underlying9 (Sl.own (S := []) ho (by simp))
      clear hrl
      go_wp2_with fail
      go_returns
      rw [hR2.out]
      exact ⟨rfl, hX⟩
    · have nE : r.toList.isEmpty = false := by rw [Lib.toList_data, hrl]; rfl
      have hfb := hide (fun w => firstByte_c r c q hrl w)
      have hsz := size_lst r
      have hRc := hRk.out
      rw [unq_cons r.data.toList (by rw [hrl]; simp)] at hRc
      cases h1 : first1 r.data.toList with
      | none =>
        rw [fb_none h1] at hfb
        rw [h1] at hRc
        replace hRc : R = none := hRc
        replace hRc := hide hRc
        clear hRk h1 hrl
        go_wp2_with (go_at_call 29; (with_reducible refine seq_gw (hfb.out _) ?_); intro g)
        go_returns
        rw [hRc.out]
        exact ⟨rfl, hX.trans g.grown⟩
      | some p =>
        obtain ⟨d, n⟩ := p
        rw [fb_some h1] at hfb
        rw [h1] at hRc
        obtain ⟨k1, k2, k3⟩ := first1_len h1
        have hn13 : n = 1 ∨ n = 3 := by rw [(first1_some h1).1]; exact esc_13 d
        rw [hsz] at k3
        obtain ⟨r', hr'⟩ : ∃ r', r' = r.extract n r.size := ⟨_, rfl⟩
        have hrd : r'.data.toList = r.data.toList.drop n := by rw [hr', Lib.extract_to_end]
        have hr's : r'.size = r.size - n := by rw [← size_lst, hrd, List.length_drop, hsz]
        have hRn : Hid (R = (unq r'.data.toList).map ((a ++ [d]) ++ ·)) := by
          show R = _
          rw [hRc, hrd]
          show ((unq (r.data.toList.drop n)).map (d :: ·)).map (a ++ ·) = _
          rw [Option.map_map]
          congr 1
          funext z
          simp
        replace hr' : r.extract n r.size = r' := hr'.symm
        have hzX := hX.size
        clear hRk hRc h1 hrl hrd
        have hkI : (n : Int) ≤ (r.size : Int) := by omega
        rcases hn13 with rfl | rfl
        · go_wp2_with (first | (go_at_call 29; (with_reducible refine seq_gw (hfb.out _) ?_); intro g) | (at_builtin; refine wpl_app tBytes' rfl (.tmp 32) (.tmp 34) rfl rfl (own_alloc' (own_ext ho g.grown) _) rfl (src_one Tryd.underlying41 _ _ _ rfl) (by unfold maxLen; omega) (by omega) (by simp only [World.size_alloc]; have := GW.size g; omega) ?_; intro v1 w1 ho1 hg1 _))
          go_roundg r'.size
          case measure => omega
          case rel =>
            have ho2 : OwnB w1 w.heap.size v1 (a ++ [d]) := own_app (m := [d]) ho1
            exact ⟨a ++ [d], r', rfl, Nat.le_refl _, by rw [List.length_append, List.length_singleton]; omega, ho2, hRn, ext_grown ((hX.trans g.grown).alloc _) hg1 (fun k hk => (ho.lt k hk).1)⟩
        · go_wp2_with (first | (go_at_call 29; (with_reducible refine seq_gw (hfb.out _) ?_); intro g) | (at_builtin; refine wpl_app tBytes' rfl (.tmp 32) (.tmp 34) rfl rfl (own_alloc' (own_ext ho g.grown) _) rfl (src_one Tryd.underlying41 _ _ _ rfl) (by unfold maxLen; omega) (by omega) (by simp only [World.size_alloc]; have := GW.size g; omega) ?_; intro v1 w1 ho1 hg1 _))
          go_roundg r'.size
          case measure => omega
          case rel =>
            have ho2 : OwnB w1 w.heap.size v1 (a ++ [d]) := own_app (m := [d]) ho1
            exact ⟨a ++ [d], r', rfl, Nat.le_refl _, by rw [List.length_append, List.length_singleton]; omega, ho2, hRn, ext_grown ((hX.trans g.grown).alloc _) hg1 (fun k hk => (ho.lt k hk).1)⟩
theorem unquote_c (s : ByteArray) (hs : s.size ≤ 140737488351232) (w : World) : Calls Tryd.prog 23 #[.string s] w fun e w' => e = .returned (optS (unqT s.data.toList)) ∧ Ext w w' := by
  by_cases h : s.size < 2 ∨ (s.data.toList.getD (s.size - 1) 0).toNat ≠ 39
  · have e : unqT s.data.toList = none := by
      unfold unqT
      rw [size_lst]
      rcases h with h | h
      · rw [if_pos h]
      · rw [if_neg h]; split <;> rfl
    rw [e]
    exact unquote_short s hs h w
  · have h2 : ¬ s.size < 2 := fun k => h (.inl k)
    have h9 : (s.data.toList.getD (s.size - 1) 0).toNat = 39 := by
      refine Classical.byContradiction fun k => h (.inr k)
    have e : unqT s.data.toList = unq (mid s.data.toList) := by
      unfold unqT
      rw [size_lst, if_neg h2, if_pos h9]
    rw [e]
    exact unquote_long s hs (by omega) h9 w
end Go.Proofs.YtpfcmlmljolplaaDoor
