/-
  A helper of ours: no claim of its own. Layer 5 (value): the value that is written, by the code.
-/
import Derived.Test.YtpfcmlmljolplaaDoorValU
set_option linter.unusedVariables false
set_option linter.unusedSimpArgs false
namespace Go.Proofs.YtpfcmlmljolplaaDoor
open Go.RowKit
attribute [local go_sem] GW.cell GW.frozen In.eq_true In.le_true In.ne In.ne' In.ne_add In.ne_add' In.lt_add Upto.le_true Upto.le_add Upto.lt_add
/-- What a text in quotes is as a value, and what is wrong with it. -/
def ptE (o : Option (List UInt8)) : Int := match o with | none => 4 | some t => if t.length ≤ 64 then 0 else 6
def ptV (o : Option (List UInt8)) : Vl := match o with | none => (0, 0, ⟨#[]⟩) | some t => if t.length ≤ 64 then (2, 0, ⟨t.toArray⟩) else (0, 0, ⟨#[]⟩)
/-- A text as a value, and what is wrong with it. -/
def paE (l : List UInt8) : Int := if l.head? = some 39 then ptE (unqT l) else readE l
def paV (l : List UInt8) : Vl := if l.head? = some 39 then ptV (unqT l) else if readE l = 0 then (1, readV l, ⟨#[]⟩) else (0, 0, ⟨#[]⟩)
abbrev vlv (a : Vl) : Value := val a.1 a.2.1 a.2.2
set_option maxHeartbeats 1000000 in
set_option maxRecDepth 100000 in
theorem parseText_c (s : ByteArray) (hs : s.size ≤ 140737488351232) (w : World) : Calls Tryd.prog 12 #[.string s] w fun e w' => e = .returned (.tuple #[vlv (ptV (unqT s.data.toList)), .int .i64 (ptE (unqT s.data.toList))]) ∧ Ext w w' := by
  have hu := hide (fun w => unquote_c s hs w)
  generalize unqT s.data.toList = o at *
  rcases o with _ | t
  · replace hu := hide (show ∀ w, Calls Tryd.prog 23 #[.string s] w fun e w' => e = .returned (.tuple #[.string ⟨#[]⟩, .bool false]) ∧ Ext w w' from hu.out)
    show Calls Tryd.prog 12 #[.string s] w fun e w' => e = .returned (.tuple #[val 0 0 ⟨#[]⟩, .int .i64 4]) ∧ Ext w w'
    go_enter Tryd.func12, Tryd.ntmps12
    go_wp2_with (go_at_call 23; (with_reducible refine seq_gw (hu.out _) ?_); intro g)
    go_returns
    exact ⟨rfl, (((((Ext.refl w).alloc _).trans g.grown).setCell (Nat.le_refl _) _).setCell (Nat.le_refl _) _).setCell (Nat.le_refl _) _⟩
  · replace hu := hide (show ∀ w, Calls Tryd.prog 23 #[.string s] w fun e w' => e = .returned (.tuple #[.string ⟨t.toArray⟩, .bool true]) ∧ Ext w w' from hu.out)
    by_cases h : t.length ≤ 64
    · have ht := hide (fun w => vtext_ok ⟨t.toArray⟩ (by show t.toArray.size ≤ 64; simpa using h) w)
      have e1 : ptV (some t) = (2, 0, ⟨t.toArray⟩) := by unfold ptV; simp only; rw [if_pos h]
      have e2 : ptE (some t) = 0 := by unfold ptE; simp only; rw [if_pos h]
      rw [e1, e2]
      clear e1 e2 h
      generalize (⟨t.toArray⟩ : ByteArray) = m at *
      go_enter Tryd.func12, Tryd.ntmps12
      go_wp2_with (first | (go_at_call 23; (with_reducible refine seq_gw (hu.out _) ?_); intro g) | (go_at_call 17; (with_reducible refine seq_gw' (ht.out _) ?_); intro g2))
      go_returns
      exact ⟨rfl, (((((Ext.refl w).alloc _).trans g2.grown).setCell (Nat.le_refl _) _).setCell (Nat.le_refl _) _).setCell (Nat.le_refl _) _⟩
    · have ht := hide (fun w => vtext_long ⟨t.toArray⟩ (by show 64 < t.toArray.size; simp; omega) w)
      have e1 : ptV (some t) = (0, 0, ⟨#[]⟩) := by unfold ptV; simp only; rw [if_neg h]
      have e2 : ptE (some t) = 6 := by unfold ptE; simp only; rw [if_neg h]
      rw [e1, e2]
      clear e1 e2 h
      generalize (⟨t.toArray⟩ : ByteArray) = m at *
      go_enter Tryd.func12, Tryd.ntmps12
      go_wp2_with (first | (go_at_call 23; (with_reducible refine seq_gw (hu.out _) ?_); intro g) | (go_at_call 17; (with_reducible refine seq_gw' (ht.out _) ?_); intro g2))
      go_returns
      exact ⟨rfl, (((((Ext.refl w).alloc _).trans g2.grown).setCell (Nat.le_refl _) _).setCell (Nat.le_refl _) _).setCell (Nat.le_refl _) _⟩
set_option maxHeartbeats 1000000 in
set_option maxRecDepth 100000 in
theorem parse_c (s : ByteArray) (hs : s.size ≤ 140737488351232) (w : World) (hE : ErrR w) : Calls Tryd.prog 6 #[.string s] w fun e w' => e = .returned (.tuple #[vlv (paV s.data.toList), .int .i64 (paE s.data.toList)]) ∧ Ext w w' := by
  have hr := hide (fun w (h : ErrR w) => read_c s hs w h)
  have hp := hide (fun w => parseText_c s hs w)
  replace hE := hide hE
  rcases hl : s.data.toList with _ | ⟨c, r⟩
  · have nE : s.toList.isEmpty = true := by rw [Lib.toList_data, hl]; rfl
    rw [hl] at hr
    have e1 : readE [] = 4 := by decide +kernel
    have e2 : readV [] = 0 := by decide +kernel
    rw [e1, e2] at hr
    rw [show paV [] = (0, 0, ⟨#[]⟩) by unfold paV; rw [e1]; rfl, show paE [] = 4 by unfold paE; rw [e1]; rfl]
    clear hl e1 e2 hp
    go_enter Tryd.func6, Tryd.ntmps6
    go_wp2_with (go_at_call 13; (with_reducible refine seq_gw (hr.out _ (errR_ext hE.out ((Ext.refl w).alloc _))) ?_); intro g)
    go_returns
    exact ⟨rfl, (((((Ext.refl w).alloc _).trans g.grown).setCell (Nat.le_refl _) _).setCell (Nat.le_refl _) _).setCell (Nat.le_refl _) _⟩
  · have nE : s.toList.isEmpty = false := by rw [Lib.toList_data, hl]; rfl
    obtain ⟨hpos, h0⟩ := str_at (s := s) (i := 0) (c := c) (by rw [hl]; rfl)
    by_cases h9 : c.toNat = 39
    · have e0 : ((s[0].toNat : Int) == 39) = true := by rw [h0, h9]; rfl
      have hc : c = 39 := by apply UInt8.toNat_inj.1; rw [h9]; rfl
      have e1 : paV (c :: r) = ptV (unqT s.data.toList) := by unfold paV; rw [hl, hc]; exact if_pos rfl
      have e2 : paE (c :: r) = ptE (unqT s.data.toList) := by unfold paE; rw [hl, hc]; exact if_pos rfl
      rw [e1, e2]
      generalize ptV (unqT s.data.toList) = V at *
      generalize ptE (unqT s.data.toList) = E at *
      obtain ⟨vk, vn, vs⟩ := V
      clear e1 e2 hc h9 h0 hl hr
      go_enter Tryd.func6, Tryd.ntmps6
      go_wp2_with (go_at_call 12; (with_reducible refine seq_gw (hp.out _) ?_); intro g)
      go_returns
      exact ⟨rfl, (((((Ext.refl w).alloc _).trans g.grown).setCell (Nat.le_refl _) _).setCell (Nat.le_refl _) _).setCell (Nat.le_refl _) _⟩
    · have e0 : ((s[0].toNat : Int) == 39) = false := by rw [h0, beq_eq_false_iff_ne]; omega
      have hc : ¬ (c :: r).head? = some 39 := by
        intro k
        simp at k
        subst k
        exact h9 rfl
      rw [hl] at hr
      have e1 : paV (c :: r) = if readE (c :: r) = 0 then (1, readV (c :: r), ⟨#[]⟩) else (0, 0, ⟨#[]⟩) := by unfold paV; rw [if_neg hc]
      have e2 : paE (c :: r) = readE (c :: r) := by unfold paE; rw [if_neg hc]
      rw [e1, e2]
      clear e1 e2 hc h9 h0 hl hp
      generalize readE (c :: r) = x at *
      generalize readV (c :: r) = n at *
      by_cases hx : x = 0
      · subst hx
        rw [if_pos rfl]
        go_enter Tryd.func6, Tryd.ntmps6
        go_wp2_with (first | (go_at_call 13; (with_reducible refine seq_gw (hr.out _ (errR_ext hE.out ((Ext.refl w).alloc _))) ?_); intro g) | (go_at_call 14; (with_reducible refine seq_gw' (vnum_c _ _) ?_); intro g2))
        go_returns
        exact ⟨rfl, (((((Ext.refl w).alloc _).trans g2.grown).setCell (Nat.le_refl _) _).setCell (Nat.le_refl _) _).setCell (Nat.le_refl _) _⟩
      · rw [if_neg hx]
        have hxb : (x != 0) = true := by simp [hx]
        replace hx := hide hx
        go_enter Tryd.func6, Tryd.ntmps6
        go_wp2_with (go_at_call 13; (with_reducible refine seq_gw (hr.out _ (errR_ext hE.out ((Ext.refl w).alloc _))) ?_); intro g)
        go_returns
        exact ⟨rfl, (((((Ext.refl w).alloc _).trans g.grown).setCell (Nat.le_refl _) _).setCell (Nat.le_refl _) _).setCell (Nat.le_refl _) _⟩
end Go.Proofs.YtpfcmlmljolplaaDoor
