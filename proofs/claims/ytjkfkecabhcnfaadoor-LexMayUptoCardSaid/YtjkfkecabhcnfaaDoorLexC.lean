/-
  A helper of ours: no claim of its own. Layer 19 (lex): what a token is, by the code; blanks skipped.
-/
import Derived.Test.YtjkfkecabhcnfaaDoorLexB
set_option linter.unusedVariables false
set_option linter.unusedSimpArgs false
namespace Go.Proofs.YtjkfkecabhcnfaaDoor
open Go.RowKit
attribute [local go_sem] GW.cell GW.frozen In.eq_true In.le_true In.ne In.ne' In.ne_add In.ne_add' In.lt_add Upto.le_true Upto.le_add Upto.lt_add
theorem nil_size {s : ByteArray} (h : s.size = 0) : s.toList.isEmpty = true := by
  rw [Lib.toList_data, List.isEmpty_iff]
  exact List.eq_nil_of_length_eq_zero (by rw [str_len]; exact h)
theorem pos_size {s : ByteArray} (h : 0 < s.size) : s.toList.isEmpty = false := by
  rw [Lib.toList_data, ← Bool.not_eq_true, List.isEmpty_iff]
  intro e
  have := congrArg List.length e
  rw [str_len, List.length_nil] at this; omega
theorem nil_bytes {s : ByteArray} (h : s.size = 0) : s.data.toList = [] := List.eq_nil_of_length_eq_zero (by rw [str_len]; exact h)
theorem str_eq (s : ByteArray) : s = ⟨s.data.toList.toArray⟩ := by apply ByteArray.ext; simp
theorem str_back (l : List UInt8) : (⟨l.toArray⟩ : ByteArray).data.toList = l := by simp
theorem str_size (l : List UInt8) : (⟨l.toArray⟩ : ByteArray).size = l.length := by rw [← str_len]
theorem byte_eq (c d : UInt8) : ((c.toNat : Int) == (d.toNat : Int)) = decide (c = d) := by
  rw [Bool.eq_iff_iff, beq_iff_eq, decide_eq_true_iff]
  constructor
  · intro h; exact UInt8.toNat_inj.1 (by omega)
  · intro h; rw [h]
set_option maxHeartbeats 2000000 in
set_option maxRecDepth 100000 in
theorem trimByte_c (s : ByteArray) (hs : s.size ≤ 9223372036854775806) (w : World) : Calls Tryd.prog 35 #[.string s, .int .u8 32] w fun e w' => e = .returned (.string ⟨(skipB s.data.toList).toArray⟩) ∧ Ext w w' := by
  obtain ⟨R, hR⟩ : ∃ R, R = skipB s.data.toList := ⟨_, rfl⟩
  rw [← hR]
  replace hR := hide hR
  go_enter Tryd.func35, Tryd.ntmps35
  go_wp2_with fail
  go_loopg [0] s.size (fun gh sv wr => ∃ (r : ByteArray), sv = .string r ∧ r.size = gh ∧ r.size ≤ s.size ∧ Hid (R = skipB r.data.toList) ∧ Ext w wr)
  case atStart => exact ⟨s, rfl, rfl, Nat.le_refl _, hR, Ext.refl w⟩
  case round =>
    obtain ⟨r, rfl, hg, hle, hRr, hX⟩ := hrel
    clear hR
    subst hg
    by_cases h0 : r.size = 0
    · have hn : ¬ (0 : Int) < (r.size : Int) := by omega
      have hv := hide (show r = ⟨R.toArray⟩ by rw [hRr.out, nil_bytes h0, str_eq r, nil_bytes h0]; rfl)
      clear h0 hRr
      go_wp2_with fail
      go_returns
      exact ⟨by rw [← hv.out]; rfl, hX⟩
    · have hpos : 0 < r.size := by omega
      have hposI : (0 : Int) < (r.size : Int) := by omega
      have h1I : (1 : Int) ≤ (r.size : Int) := by omega
      have hd := str_drop r 0 hpos
      rw [List.drop_zero] at hd
      have hb := byte_eq r[0] 32
      by_cases hc : r[0] = 32
      · have b1 : ((r[0].toNat : Int) == 32) = true := by rw [hc]; rfl
        have hRn := hRr.out
        rw [hd, hc, skipB_blank] at hRn
        obtain ⟨t, ht⟩ : ∃ t, t = r.extract 1 r.size := ⟨_, rfl⟩
        have htl : t.data.toList = r.data.toList.drop 1 := by rw [ht, Lib.extract_to_end]
        have hts : t.size = r.size - 1 := by rw [← str_len, htl, List.length_drop, str_len]
        have hRt := hide (show R = skipB t.data.toList by rw [htl]; exact hRn)
        replace ht : r.extract 1 r.size = t := ht.symm
        clear hb hc hd hRn hRr htl h0
        go_wp2_with fail
        go_roundg (r.size - 1)
        case measure => omega
        case rel => exact ⟨t, rfl, hts, by omega, hRt, hX⟩
      · have b1 : ((r[0].toNat : Int) == 32) = false := by rw [show (32 : Int) = ((32 : UInt8).toNat : Int) from rfl, hb]; exact decide_eq_false hc
        have hv := hide (show r = ⟨R.toArray⟩ by rw [hRr.out, hd, skipB_other _ hc, ← hd]; try exact str_eq r)
        clear hb hc hd hRr h0
        go_wp2_with fail
        go_returns
        exact ⟨by rw [← hv.out]; rfl, hX⟩
set_option maxHeartbeats 2000000 in
set_option maxRecDepth 100000 in
theorem trim_c (s : ByteArray) (hs : s.size ≤ 9223372036854775806) (w : World) : Calls Tryd.prog 24 #[.string s, .string ⟨#[32]⟩] w fun e w' => e = .returned (.string ⟨(skipB s.data.toList).toArray⟩) ∧ Ext w w' := by
  have ht : Hid (∀ w, Calls Tryd.prog 35 #[.string s, .int .u8 ((((⟨#[32]⟩ : ByteArray)[0]'(by decide)).toNat : Nat) : Int)] w fun e w' => e = .returned (.string ⟨(skipB s.data.toList).toArray⟩) ∧ Ext w w') := fun w => trimByte_c s hs w
  by_cases h0 : s.size = 0
  · have nE := nil_size h0
    have hv := hide (show s = ⟨(skipB s.data.toList).toArray⟩ by rw [nil_bytes h0, str_eq s, nil_bytes h0]; rfl)
    generalize skipB s.data.toList = R at *
    clear h0 ht
    go_enter Tryd.func24, Tryd.ntmps24
    go_wp2_with fail
    go_returns
    exact ⟨by rw [← hv.out]; rfl, Ext.refl w⟩
  · have nE := pos_size (s := s) (by omega)
    generalize skipB s.data.toList = R at *
    clear h0
    go_enter Tryd.func24, Tryd.ntmps24
    go_wp2_with (first | (go_at_call 35; (with_reducible refine seq_gw (ht.out _) ?_); intro g))
    go_returns
    exact ⟨rfl, g.grown⟩
set_option maxHeartbeats 2000000 in
set_option maxRecDepth 100000 in
theorem skip_c (s : ByteArray) (hs : s.size ≤ 9223372036854775806) (w : World) : Calls Tryd.prog 17 #[.string s] w fun e w' => e = .returned (.string ⟨(skipB s.data.toList).toArray⟩) ∧ Ext w w' := by
  have ht := hide (fun w => trim_c s hs w)
  generalize skipB s.data.toList = R at *
  go_enter Tryd.func17, Tryd.ntmps17
  go_wp2_with (first | (go_at_call 24; (with_reducible refine seq_gw (ht.out _) ?_); intro g))
  go_returns
  exact ⟨rfl, g.grown⟩
set_option maxHeartbeats 2000000 in
set_option maxRecDepth 100000 in
theorem may_c (k : Int) (s : ByteArray) (hs : s.size ≤ 9223372036854775806) (w : World) : Calls Tryd.prog 11 #[.agg #[.int .i64 k, .string s]] w fun e w' => e = .returned (.bool (mayT (k, s.data.toList))) ∧ Ext w w' := by
  have hOb := hide (Ob.new w 33 [.int .i64 k, .string s])
  unfold mayT
  by_cases h0 : s.size = 0
  · have nE := nil_size h0
    rw [nil_bytes h0]
    rw [show (decide ((([] : List UInt8)) ≠ []) && decide (lenK k [] = ([] : List UInt8).length)) = false by simp]
    clear h0
    go_enter Tryd.func11, Tryd.ntmps11
    go_wp2_with fail
    refine wp_region_gw (by kernel_rfl) (by kernel_rfl) ?_
    repeat (go_big_quiet_step (fail))
    refine wpQuiet_nil ?_
    intro g
    go_wp2_with fail
    go_returns
    exact ⟨rfl, ((Ext.refl w).alloc _).trans g.grown⟩
  · have hpos : 0 < s.size := by omega
    have nE := pos_size hpos
    have hl := hide (fun w => length_c k s hs hpos w)
    have e : (decide (s.data.toList ≠ []) && decide (lenK k s.data.toList = s.data.toList.length)) = ((lenK k s.data.toList : Int) == (s.size : Int)) := by
      rw [str_len, show decide (s.data.toList ≠ []) = true from decide_eq_true (fun e => by have := congrArg List.length e; rw [str_len, List.length_nil] at this; omega), Bool.true_and, Bool.eq_iff_iff, decide_eq_true_iff, beq_iff_eq]
      omega
    simp only
    rw [e]
    generalize lenK k s.data.toList = n at *
    clear h0 e hpos
    go_enter Tryd.func11, Tryd.ntmps11
    go_wp2_with fail
    refine wp_region_gw (by kernel_rfl) (by kernel_rfl) ?_
    repeat (go_big_quiet_step (first | (go_at_call 18; with_reducible exact quiet_gw (hl.out _))))
    refine wpQuiet_nil ?_
    intro g
    go_wp2_with fail
    go_returns
    exact ⟨rfl, ((Ext.refl w).alloc _).trans g.grown⟩
end Go.Proofs.YtjkfkecabhcnfaaDoor
