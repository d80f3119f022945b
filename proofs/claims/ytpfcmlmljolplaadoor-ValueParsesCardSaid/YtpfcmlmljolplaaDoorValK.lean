/-
  A helper of ours: no claim of its own. Layer 5 (value): every value written, on both sides; what is written is read, and only what is written so.
-/
import Derived.Test.YtpfcmlmljolplaaDoorValJ
set_option linter.unusedVariables false
set_option linter.unusedSimpArgs false
namespace Go.Proofs.YtpfcmlmljolplaaDoor
open Go.RowKit
attribute [local go_sem] GW.cell GW.frozen In.eq_true In.le_true In.ne In.ne' In.ne_add In.ne_add' In.lt_add Upto.le_true Upto.le_add Upto.lt_add
def showV (a : Vl) : List UInt8 := if may a then (if a.1 = 1 then Lib.itoa a.2.1 else showB a.2.2.data.toList) else []
theorem showV_num {n : Int} {s : ByteArray} (h : s.size = 0) : showV (1, n, s) = Lib.itoa n := by
  unfold showV may; simp [may_num h]
theorem showV_text {s : ByteArray} (h : s.size ≤ 64) : showV (2, 0, s) = showB s.data.toList := by
  unfold showV may; simp only; rw [may_text h, if_pos rfl, if_neg (by decide)]
theorem showV_no {k n : Int} {s : ByteArray} (h : mayB k n s = false) : showV (k, n, s) = [] := by
  unfold showV may; simp only; rw [h, if_neg (by decide)]
set_option maxHeartbeats 1000000 in
set_option maxRecDepth 100000 in
theorem numShow_c (n : Int) (hn : -9223372036854775808 ≤ n ∧ n ≤ 9223372036854775807) (w : World) (ht : Tab w) : Calls Tryd.prog 77 #[.int .i64 n] w fun e w' => e = .returned (.string ⟨(Lib.itoa n).toArray⟩) ∧ Ext w w' := by
  have hc := hide (fun w h => show_c n hn w h)
  clear hn
  replace ht := hide ht
  go_enter Tryd.func77, Tryd.ntmps77
  go_wp2_with (go_at_call 79; (with_reducible refine seq_gw (hc.out _ ht.out) ?_); intro g)
  go_returns
  exact ⟨rfl, g.grown⟩
set_option maxHeartbeats 1000000 in
set_option maxRecDepth 100000 in
theorem vshow_c (k n : Int) (s : ByteArray) (hn : -9223372036854775808 ≤ n ∧ n ≤ 9223372036854775807) (w : World) (ht : Tab w) : Calls Tryd.prog 5 #[val k n s] w fun e w' => e = .returned (.string ⟨(showV (k, n, s)).toArray⟩) ∧ Ext w w' := by
  rcases may_cases (k := k) (n := n) (s := s) with ⟨rfl, h⟩ | ⟨rfl, rfl, h⟩ | ⟨hm, h⟩
  · rw [showV_num h]
    have h1 := hide (fun w => inner_num n s h w)
    have hc := hide (fun w h => numShow_c n hn w h)
    replace ht := hide ht
    clear h hn
    go_enter Tryd.func5, Tryd.ntmps5
    go_wp2_with (first | (go_at_call 11; (with_reducible refine seq_gw (h1.out _) ?_); intro g) | (go_at_call 77; (with_reducible refine seq_gw' (hc.out _ (ht.out.ext (((Ext.refl w).alloc _).trans g.grown))) ?_); intro g2))
    go_returns
    exact ⟨rfl, ((Ext.refl w).alloc _).trans g2.grown⟩
  · rw [showV_text h]
    exact showText_c s h w
  · rw [showV_no hm]
    have h1 := hide (fun w => inner_none k n s h w)
    clear h hn hm
    go_enter Tryd.func5, Tryd.ntmps5
    go_wp2_with (go_at_call 11; (with_reducible refine seq_gw (h1.out _) ?_); intro g)
    go_returns
    exact ⟨rfl, ((Ext.refl w).alloc _).trans g.grown⟩
set_option maxHeartbeats 1000000 in
set_option maxRecDepth 100000 in
theorem vrefShow_c (k n : Int) (s : ByteArray) (hn : -9223372036854775808 ≤ n ∧ n ≤ 9223372036854775807) (w : World) : Calls Tryd.prog 7 #[val k n s] w fun e w' => e = .returned (.string ⟨(showV (k, n, s)).toArray⟩) ∧ Ext w w' := by
  rcases may_cases (k := k) (n := n) (s := s) with ⟨rfl, h⟩ | ⟨rfl, rfl, h⟩ | ⟨hm, h⟩
  · rw [showV_num h]
    have h1 := hide (fun w => refMay_c 1 n s w)
    rw [may_num h] at h1
    have hc := hide (fun w => refShow_c n hn w)
    clear h hn
    go_enter Tryd.func7, Tryd.ntmps7
    go_wp2_with (first | (go_at_call 15; (with_reducible refine seq_gw (h1.out _) ?_); intro g) | (go_at_call 16; (with_reducible refine seq_gw' (hc.out _) ?_); intro g2))
    go_returns
    exact ⟨rfl, ((Ext.refl w).alloc _).trans g2.grown⟩
  · rw [showV_text h]
    exact refShowT_c s h w
  · rw [showV_no hm]
    have h1 := hide (fun w => refMay_c k n s w)
    rw [hm] at h1
    clear h hn hm
    go_enter Tryd.func7, Tryd.ntmps7
    go_wp2_with (go_at_call 15; (with_reducible refine seq_gw (h1.out _) ?_); intro g)
    go_returns
    exact ⟨rfl, ((Ext.refl w).alloc _).trans g.grown⟩
theorem read_itoa {n : Int} (hn : -9223372036854775808 ≤ n ∧ n ≤ 9223372036854775807) : readE (Lib.itoa n) = 0 ∧ readV (Lib.itoa n) = n := by
  obtain ⟨f1, f2⟩ := itoa_form n
  have e1 : readE (Lib.itoa n) = 0 := by unfold readE; rw [f1, f2, inR_yes hn]; rfl
  exact ⟨e1, by unfold readV; rw [if_pos e1, f2]⟩
theorem numF_head {l : List UInt8} (h : numF l = true) : l.head? ≠ some 39 := by
  rcases l with _ | ⟨c, r⟩
  · simp
  · intro e
    simp at e
    subst e
    have hb : bodyD (39 :: r) = 39 :: r := by unfold bodyD; rw [show isNeg (39 :: r) = false by rfl]; rfl
    have : numF (39 :: r) = false := by
      unfold numF
      rw [hb]
      have : digsB (39 :: r) = false := by unfold digsB; simp; intro h0; exact absurd h0 (by decide)
      rw [this]; simp
    rw [this] at h; cases h
theorem showB_len (t : List UInt8) : (showB t).length = (t.flatMap esc).length + 2 := by unfold showB; simp
theorem unqT_showB (t : List UInt8) : unqT (showB t) = some t := by
  have hl := showB_len t
  unfold unqT
  rw [hl, if_neg (by omega)]
  have hlast : (showB t).getD ((t.flatMap esc).length + 2 - 1) 0 = 39 := by
    unfold showB
    rw [show (t.flatMap esc).length + 2 - 1 = (t.flatMap esc).length + 1 by omega, List.getD_eq_getElem?_getD, List.getElem?_cons_succ, List.getElem?_append_right (Nat.le_refl _)]
    simp
  rw [hlast, if_pos (by decide)]
  have hmid : mid (showB t) = t.flatMap esc := by
    unfold mid
    rw [hl]
    unfold showB
    rw [List.drop_succ_cons, List.drop_zero, show (t.flatMap esc).length + 2 - 1 - 1 = (t.flatMap esc).length by omega, List.take_left]
  rw [hmid, unq_esc]
theorem pa_show {k n : Int} {s : ByteArray} (hn : -9223372036854775808 ≤ n ∧ n ≤ 9223372036854775807) (h : mayB k n s = true) : paE (showV (k, n, s)) = 0 ∧ paV (showV (k, n, s)) = (k, n, s) := by
  rcases may_cases (k := k) (n := n) (s := s) with ⟨rfl, h'⟩ | ⟨rfl, rfl, h'⟩ | ⟨hm, _⟩
  · rw [showV_num h']
    obtain ⟨e1, e2⟩ := read_itoa hn
    have hh := numF_head (itoa_form n).1
    refine ⟨?_, ?_⟩
    · unfold paE; rw [if_neg hh, e1]
    · unfold paV; rw [if_neg hh, if_pos e1, e2, empty_of h']
  · rw [showV_text h']
    have hh : (showB s.data.toList).head? = some 39 := rfl
    have hlen : s.data.toList.length ≤ 64 := by rw [size_lst]; exact h'
    refine ⟨?_, ?_⟩
    · unfold paE; rw [if_pos hh, unqT_showB]; unfold ptE; simp only; rw [if_pos hlen]
    · unfold paV; rw [if_pos hh, unqT_showB]; unfold ptV; simp only; rw [if_pos hlen]
  · rw [h] at hm; cases hm
theorem pa_nil : paE [] = 4 := by unfold paE; rw [if_neg (by simp)]; decide +kernel
theorem unqT_some {l t : List UInt8} (hh : l.head? = some 39) (h : unqT l = some t) : l = showB t := by
  unfold unqT at h
  by_cases h2 : l.length < 2
  · rw [if_pos h2] at h; cases h
  · rw [if_neg h2] at h
    by_cases h9 : (l.getD (l.length - 1) 0).toNat = 39
    · rw [if_pos h9] at h
      have hm := unq_some _ _ _ (Nat.le_refl _) h
      rcases l with _ | ⟨c, r⟩
      · cases hh
      · simp at hh
        subst hh
        unfold showB
        congr 1
        have hl9 : r.getD (r.length - 1) 0 = 39 := by
          apply UInt8.toNat_inj.1
          simp only [List.length_cons] at h9 h2
          rw [show r.length + 1 - 1 = (r.length - 1) + 1 by omega, List.getD_cons_succ] at h9
          rw [h9]; rfl
        rw [← hm]
        unfold mid
        simp only [List.length_cons, List.drop_succ_cons, List.drop_zero, Nat.add_sub_cancel] at h2 ⊢
        have hne : r.length - 1 < r.length := by omega
        rw [List.getD_eq_getElem?_getD, List.getElem?_eq_getElem hne] at hl9
        have := List.take_append_drop (r.length - 1) r
        rw [List.drop_eq_getElem_cons hne] at this
        rw [show r.length - 1 + 1 = r.length by omega, List.drop_length] at this
        simp only [Option.getD_some] at hl9
        rw [hl9] at this
        exact this.symm
    · rw [if_neg h9] at h; cases h
theorem readE_zero {l : List UInt8} (h : readE l = 0) : numF l = true ∧ inR (readVal l) = true ∧ readV l = readVal l := by
  have hF : numF l = true := by
    cases h1 : numF l
    · unfold readE at h; rw [h1] at h; simp at h
    · rfl
  refine ⟨hF, ?_, by unfold readV; rw [if_pos h]⟩
  cases h2 : inR (readVal l)
  · unfold readE at h; rw [hF, h2] at h; exact absurd h (by decide)
  · rfl
/-- What is read is a value, and is written as it was. -/
theorem show_pa {l : List UInt8} (h : paE l = 0) : showV (paV l) = l ∧ (-9223372036854775808 ≤ (paV l).2.1 ∧ (paV l).2.1 ≤ 9223372036854775807) := by
  unfold paE at h
  unfold paV
  by_cases hh : l.head? = some 39
  · rw [if_pos hh] at h ⊢
    cases hu : unqT l with
    | none => rw [hu] at h; exact absurd h (by decide)
    | some t =>
      rw [hu] at h
      unfold ptE at h
      simp only at h
      by_cases h64 : t.length ≤ 64
      · unfold ptV
        simp only
        rw [if_pos h64, showV_text (by show t.toArray.size ≤ 64; simpa using h64)]
        exact ⟨(unqT_some hh hu).symm, by show (-9223372036854775808 : Int) ≤ 0 ∧ (0 : Int) ≤ 9223372036854775807; decide⟩
      · rw [if_neg h64] at h; exact absurd h (by decide)
  · rw [if_neg hh] at h ⊢
    rw [if_pos h, showV_num rfl]
    obtain ⟨h1, h2, h3⟩ := readE_zero h
    refine ⟨?_, ?_⟩
    · rw [h3]; exact itoa_of h1
    · simp only; rw [h3]; exact inR_iff.1 h2
theorem paV_in (l : List UInt8) : -9223372036854775808 ≤ (paV l).2.1 ∧ (paV l).2.1 ≤ 9223372036854775807 := by
  by_cases h : paE l = 0
  · exact (show_pa h).2
  · have : (paV l).2.1 = 0 := by
      unfold paE at h
      unfold paV
      split
      · rename_i hh
        rw [if_pos hh] at h
        cases hu : unqT l with
        | none => rfl
        | some t => unfold ptV; simp only; split <;> rfl
      · rename_i hh
        rw [if_neg hh] at h
        rw [if_neg h]
    rw [this]; decide
theorem showB_le {t : List UInt8} (h : t.length ≤ 64) : (showB t).length ≤ 194 := by
  rw [showB_len]
  have : ∀ l : List UInt8, (l.flatMap esc).length ≤ 3 * l.length := by
    intro l
    induction l with
    | nil => simp
    | cons c r ih => rw [List.flatMap_cons, List.length_append, List.length_cons]; have := esc_len c; omega
  have := this t
  omega
theorem showV_len {k n : Int} {s : ByteArray} (hn : -9223372036854775808 ≤ n ∧ n ≤ 9223372036854775807) : (showV (k, n, s)).length ≤ 200 := by
  rcases may_cases (k := k) (n := n) (s := s) with ⟨rfl, h⟩ | ⟨rfl, rfl, h⟩ | ⟨hm, h⟩
  · rw [showV_num h]; have := Lib.itoa_length_le n hn.1 hn.2; omega
  · rw [showV_text h]; have := showB_le (t := s.data.toList) (by rw [size_lst]; exact h); omega
  · rw [showV_no hm]; simp
end Go.Proofs.YtpfcmlmljolplaaDoor
