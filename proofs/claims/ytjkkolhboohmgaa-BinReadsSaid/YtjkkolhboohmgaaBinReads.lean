/-
  Layer 3 (bin), 3.2, 3.3: for every bytes and list of what is wanted, what is read, what is left and the first error are those that the document says, behind each element. No condition.
-/
import Derived.Test.YtjkkolhboohmgaaBinL
import Derived.Test.YtjkkolhboohmgaaBinM
import Derived.Test.YtjkkolhboohmgaaReg2
import Derived.Test.YtjkkolhboohmgaaArg
import Derived.WalkKit
import Derived.ProofKit
import Derived.OpenShut
import Derived.ShutString
import Derived.ChangeOld
import Derived.Below
import Derived.Lib.SmallJoins
import Derived.SizedLaws
import Derived.Deep.CondSized
import Derived.JoinedCond
set_option linter.unusedVariables false
set_option linter.unusedSimpArgs false
namespace Go.Proofs.Ytjkkolhboohmgaa.binReads
open Go.ChangeShapes Go.WideShapes Go.ChangeAt Go.RowKit Go.Joins
open Go.ChangeMaps (open_string shut_string)
attribute [local go_sem] GW.cell GW.frozen In.eq_true In.le_true In.ne In.ne' In.ne_add In.ne_add' In.lt_add Upto.le_true Upto.le_add Upto.lt_add
attribute [-go_sem] sliced
attribute [local go_sem] sliced_eq

theorem extB {w w3 w4 w5 w6 : World} {b c : Nat} (hX : Ext w w3) (h1 : Fr [c, b] w3 w4) (h2 : Fr [c, b] w4 w5) (h3 : Fr [c, b] w5 w6) (hb : ∀ x, x ∈ [c, b] → w.heap.size ≤ x) : Ext w w6 := ext_fr (ext_fr (ext_fr hX h1 hb) h2 hb) h3 hb
def L18 {S : List Nat} (b c : Nat) (st : List UInt8 × Int) : List (FactS S) := [(.is (.pointer (some ⟨b, 0, none⟩))), (.is (.int .i64 st.1.length)), (.is (.pointer (some ⟨c, 0, none⟩))), (.is (.pointer (some ⟨c, 0, none⟩))), (.is (.pointer (some ⟨c, 0, none⟩))), (.st (fun v _ => ∃ A cap, v = .slice A st.1.length cap) (fun _ _ _ h _ => h)), (.is (.int .i64 st.1.length)), (.is (.bool false)), (.is (.bool false)), (.is (.pointer (some ⟨b, 0, none⟩))), (.is (.int .i64 st.2)), (.is (.pointer (some ⟨c, 0, none⟩))), (.is (.pointer (some ⟨c, 0, none⟩))), (.is (.pointer (some ⟨c, 1, none⟩))), (.is (.int .i64 st.2)), (.is (.bool false)), (.is (.bool false))]
def L7 {S : List Nat} (p2 : Int) (g o k b c : Nat) (ws : List (Int × Int)) (cap : Nat) (st : List UInt8 × Int) : List (FactS S) := [(.is (.pointer (some ⟨b, 0, none⟩))), (.is (.slice (some ⟨g, o, none⟩) ws.length cap)), (.is (.int .i64 k)), (.is (.pointer (some ⟨g, o + k * 2, none⟩))), (.is (.pointer (some ⟨g, o + k * 2 + 1, none⟩))), (.is (.int .i64 p2)), (.is (.string ⟨(textVal p2 st.1 st.2).toArray⟩)), (.is (.pointer (some ⟨c, 0, none⟩))), (.is (.slice (some ⟨g, o, none⟩) ws.length cap)), (.is (.int .i64 k)), (.is (.pointer (some ⟨g, o + k * 2, none⟩))), (.is (.pointer (some ⟨g, o + k * 2 + 1, none⟩))), (.is (.int .i64 p2)), (.is (.string ⟨(textVal p2 st.1 st.2).toArray⟩)), (.is (.bool false))]
set_option maxHeartbeats 8000000 in
set_option maxRecDepth 100000 in
theorem walk (l : List UInt8) (v : Value) (ws : List (Int × Int)) (v1 : Value) (hl : l.length ≤ 140737488351232) (w : World) (hv : By w [] v l) (hv1 : Sl w [] 2 v1 ws.length (ps ws)) : Calls Try.prog 4 #[v, v1] w fun e w' => e = .returned (.bool true) ∧ Ext w w' := by
  obtain ⟨A, cap0, rfl, _⟩ := id hv
  obtain ⟨A1, cap, rfl, hn, hcap, _, h4⟩ := hv1
  have hws : ∀ k p, ws[k]? = some p → ∃ g o, A1 = some ⟨g, o, none⟩ ∧ g < w.heap.size ∧ w.cell? ⟨g, o + k * 2, none⟩ = some (.int .i64 p.1) ∧ w.cell? ⟨g, o + k * 2 + 1, none⟩ = some (.int .i64 p.2) := by
    intro k p hp
    obtain ⟨q1, q2⟩ := ps_get ws k p hp
    rcases h4 with h4 | ⟨g, o, e, _, hc⟩
    · rw [h4] at q1; simp at q1
    · have := hc _ _ q1
      exact ⟨g, o, e, block_lt_of_cell this, this, by have := hc _ _ q2; rw [← Nat.add_assoc] at this; exact this⟩
  replace hws := hide hws
  unfold maxLen at hcap
  have hlm : l.length ≤ 9223372036854775807 := by omega
  clear h4
  replace hv := hide hv
  go_enter Try.func4, Try.ntmps4
  go_wp2_with (first | (go_at_call 13; refine (newReader_c [] _ l hl _ hv.out (by simp)).mono ?_; rintro ee w1 ⟨b, rfl, hb, hR1, hX1⟩; have hlit := World.ownsRow_lit (base := w1.heap.size) (e := 5) (size := 1) w1 #[] 0 (Nat.le_refl _) (by decide) rfl) | (at_builtin; refine wpl_app tBytes rfl (.tmp 10) (.tmp 11) rfl rfl hlit rfl (src_sl Try.underlying23 (Sl.ext hv.out (hX1.alloc _)) (bs_one _) (by omega)) (by unfold maxLen; omega) (by omega) (by simp) ?_; intro v2 w2 hp2 hg2 _; replace hp2 := own_app (l := []) hp2; rw [List.nil_append] at hp2; obtain ⟨A2, c2, rfl⟩ := own_form hp2))
  have hz1 := hX1.size
  have hX2 := ext_grown (hX1.alloc (.cells #[] 5)) hg2 (fun k hk => by have := (hlit.lt k hk).1; omega)
  have hE2 : Ext w1 w2 := ext_grown ((Ext.refl w1).alloc (.cells #[] 5)) hg2 (fun k hk => (hlit.lt k hk).1)
  have hz2 := hE2.size
  have hbl : b < w1.heap.size := by obtain ⟨_, _, v, hO, _⟩ := hR1; exact hO.lt
  have hcb : w2.heap.size ≠ b := by omega
  have hbS : ∀ x, x ∈ [w2.heap.size, b] → w.heap.size ≤ x := by intro x hx; simp at hx; rcases hx with rfl | rfl <;> omega
  have hR3 : Rdr (w2.alloc (.cells #[.slice A2 l.length c2, .int .i64 0] 33)) [w2.heap.size, b] b (l, 0) :=
    rdr_ext ((rdr_ext hR1 hE2).more (by intro x hx; simp at hx; rcases hx with rfl | rfl <;> simp) (by simp)) ((Ext.refl w2).alloc _)
  have hQ3 : Qdr (w2.alloc (.cells #[.slice A2 l.length c2, .int .i64 0] 33)) [w2.heap.size, b] w2.heap.size (l, 0) :=
    ⟨by simp, by simp, _, Ob.new w2 _ [_, .int .i64 0], (Sl.own (S := [b]) hp2 (by intro x hx; simp at hx; subst hx; exact hbl) |>.new (S' := [w2.heap.size, b]) (fun x hx => by simp at hx; rcases hx with rfl | rfl <;> simp)).alloc _⟩
  have hX3 := hX2.alloc (.cells #[.slice A2 l.length c2, .int .i64 0] 33)
  clear hp2 hg2 hlit hE2 hz2 hX2 hR1
  generalize hc : w2.heap.size = c at *
  generalize w2.alloc (.cells #[.slice A2 l.length c2, .int .i64 0] 33) = w3 at *
  clear hc hv
  go_loopw [7] (fun i wr => ∃ (k : Nat) (st : List UInt8 × Int), i = .int .i64 k ∧ k ≤ ws.length ∧ Rdr wr [c, b] b st ∧ Qdr wr [c, b] c st ∧ Ext w wr) (fun i _ => ws.length - (intOf i).toNat)
  case atStart => exact ⟨0, (l, 0), rfl, Nat.zero_le _, hR3, hQ3, hX3⟩
  case round =>
    obtain ⟨k, st, rfl, hk, hR, hQ, hX⟩ := hrel
    by_cases hkl : k < ws.length
    · obtain ⟨⟨p1, p2⟩, hp⟩ : ∃ p, ws[k]? = some p := ⟨_, List.getElem?_eq_getElem hkl⟩
      obtain ⟨g, o, rfl, hg, hc1, hc2⟩ := hws.out k _ hp
      have d1 : wr.cell? ⟨g, o + k * 2, none⟩ = some (.int .i64 p1) := (Below.cell hX (p := ⟨g, o + k * 2, none⟩) hg).trans hc1
      have d2 : wr.cell? ⟨g, o + k * 2 + 1, none⟩ = some (.int .i64 p2) := (Below.cell hX (p := ⟨g, o + k * 2 + 1, none⟩) hg).trans hc2
      replace hp := hide hp
      clear hc1 hc2 hws
      have hcell : ∀ w', Fr [c, b] wr w' → w'.cell? ⟨g, o + k * 2 + 1, none⟩ = some (.int .i64 p2) := fun w' hF => (World.cell?_of_block (a := ⟨g, o + k * 2 + 1, none⟩) (hF.block g (by have := block_lt_of_cell d2; exact this) (fun hm => by have := hbS g hm; omega))).trans d2
      replace hcell := hide hcell
      by_cases e0 : p1 = 0
      · subst e0
        obtain ⟨st2, hst2⟩ : ∃ st2, st2 = byteSt st.1 st.2 := ⟨_, rfl⟩
        replace hst2 := hide hst2
        go_wp2_with (first | (go_at_call 14; refine (rbyte_c [c, b] b st.1 st.2 _ hR).mono ?_; rintro ee w4 ⟨rfl, hR1, hF1⟩) | (go_at_call 15; refine (qbyte_c [c, b] c st.1 st.2 _ (Qdr.fr hQ hF1 (by simpa using hcb) (by simp))).mono ?_; rintro ee w5 ⟨rfl, hQ2, hF2⟩; have hR2 := Rdr.fr hR1 hF2 (by simpa using Ne.symm hcb) (by simp)))
        rw [← hst2.out] at hR2 hQ2
        refine wp_region_objs (S := [c, b]) (L18 b c st2) (fun _ x => Rdr x [c, b] b st2 ∧ Qdr x [c, b] c st2) [] (by kernel_rfl) (by kernel_rfl) (by kernel_rfl) (fun _ x y h k => ⟨rdr_ext h.1 k, qdr_ext h.2 k⟩) (fun _ _ _ _ h => h) ⟨hR2, hQ2⟩ ?_ ?_
        · refine ⟨?_, ?_, ?_, ?_, ?_, ?_, ?_, ?_, ?_, ?_, ?_, ?_, ?_, ?_, ?_, ?_, ?_, trivial⟩
          · intro b' w' Lf h
            have f5 : b'.tmps.getD 5 undef = .pointer (some ⟨b, 0, none⟩) := h.else_ 5 (of_decide_eq_true (by kernel_rfl))
            exact .inl ⟨by decide, (good_move (wanted_none rfl) rfl f5)⟩
          · intro b' w' Lf h
            have f62 : b'.tmps.getD 62 undef = .pointer (some ⟨b, 0, none⟩) := h.dep 0 _ 62 (by kernel_rfl) rfl rfl
            refine .inl ⟨by decide, good_call (wanted_none rfl) rfl (enters Try.func22 (by kernel_rfl) rfl) ?_⟩
            rw [show (#[.tmp 62] : Array Operand).map b'.eval = #[.pointer (some ⟨b, 0, none⟩)] by simp [Act.eval, f62]]
            exact (left_c _ b _ _ _ h.obj.1).mono fun e w1 ⟨he, hx⟩ => ⟨_, he, rfl, hx ▸ Ext.refl _⟩
          · intro b' w' Lf h
            have f6 : b'.tmps.getD 6 undef = .pointer (some ⟨c, 0, none⟩) := h.else_ 6 (of_decide_eq_true (by kernel_rfl))
            exact .inl ⟨by decide, (good_move (wanted_none rfl) rfl f6)⟩
          · intro b' w' Lf h
            have f64 : b'.tmps.getD 64 undef = .pointer (some ⟨c, 0, none⟩) := h.dep 2 _ 64 (by kernel_rfl) rfl rfl
            exact .inl ⟨by decide, good_nilCheck (wanted_none rfl) rfl f64 rfl⟩
          · intro b' w' Lf h
            have f65 : b'.tmps.getD 65 undef = .pointer (some ⟨c, 0, none⟩) := h.dep 3 _ 65 (by kernel_rfl) rfl rfl
            exact .inl ⟨by decide, good_field (wanted_none rfl) rfl f65 (by simp [go_sem]) rfl⟩
          · intro b' w' Lf h
            have f66 : b'.tmps.getD 66 undef = .pointer (some ⟨c, 0, none⟩) := h.dep 4 _ 66 (by kernel_rfl) rfl rfl
            obtain ⟨A', cap', c0, c1, _, _, _⟩ := h.obj.2.lay
            exact .inl ⟨by decide, good_load (wanted_none rfl) rfl f66 (v := .slice A' (st2).1.length cap') (by simp [go_sem, c0]) ⟨_, _, rfl⟩⟩
          · intro b' w' Lf h
            have f67 := h.dep 5 _ 67 (by kernel_rfl) rfl rfl
            obtain ⟨A', cap', e67⟩ := f67
            exact .inl ⟨by decide, good_len (wanted_none rfl) rfl Try.underlying23 e67 rfl⟩
          · intro b' w' Lf h
            have f63 : b'.tmps.getD 63 undef = .int .i64 (st2).1.length := h.dep 1 _ 63 (by kernel_rfl) rfl rfl
            have f68 : b'.tmps.getD 68 undef = .int .i64 (st2).1.length := h.dep 6 _ 68 (by kernel_rfl) rfl rfl
            exact .inl ⟨by decide, (good_bin (wanted_none rfl) rfl f63 f68 (by exact guard_int _) (by exact run_neq_int Try.underlying3 _ _) rfl)⟩
          · intro b' w' Lf h
            have f69 : b'.tmps.getD 69 undef = .bool false := h.dep 7 _ 69 (by kernel_rfl) rfl rfl
            exact .inl ⟨by decide, (good_move (wanted_none rfl) rfl f69)⟩
          · intro b' w' Lf h
            have f70 : b'.tmps.getD 70 undef = .bool false := h.dep 8 _ 70 (by kernel_rfl) rfl rfl
            have f5 : b'.tmps.getD 5 undef = .pointer (some ⟨b, 0, none⟩) := h.else_ 5 (of_decide_eq_true (by kernel_rfl))
            exact .inl ⟨by decide, (good_move (wanted_yes rfl rfl f70) rfl f5)⟩
          · intro b' w' Lf h
            have f70 : b'.tmps.getD 70 undef = .bool false := h.dep 8 _ 70 (by kernel_rfl) rfl rfl
            have f71 : b'.tmps.getD 71 undef = .pointer (some ⟨b, 0, none⟩) := h.dep 9 _ 71 (by kernel_rfl) rfl rfl
            refine .inl ⟨by decide, good_call (wanted_yes rfl rfl f70) rfl (enters Try.func23 (by kernel_rfl) rfl) ?_⟩
            rw [show (#[.tmp 71] : Array Operand).map b'.eval = #[.pointer (some ⟨b, 0, none⟩)] by simp [Act.eval, f71]]
            exact (err_c _ b _ _ _ h.obj.1).mono fun e w1 ⟨he, hx⟩ => ⟨_, he, rfl, hx ▸ Ext.refl _⟩
          · intro b' w' Lf h
            have f70 : b'.tmps.getD 70 undef = .bool false := h.dep 8 _ 70 (by kernel_rfl) rfl rfl
            have f6 : b'.tmps.getD 6 undef = .pointer (some ⟨c, 0, none⟩) := h.else_ 6 (of_decide_eq_true (by kernel_rfl))
            exact .inl ⟨by decide, (good_move (wanted_yes rfl rfl f70) rfl f6)⟩
          · intro b' w' Lf h
            have f70 : b'.tmps.getD 70 undef = .bool false := h.dep 8 _ 70 (by kernel_rfl) rfl rfl
            have f73 : b'.tmps.getD 73 undef = .pointer (some ⟨c, 0, none⟩) := h.dep 11 _ 73 (by kernel_rfl) rfl rfl
            exact .inl ⟨by decide, good_nilCheck (wanted_yes rfl rfl f70) rfl f73 rfl⟩
          · intro b' w' Lf h
            have f70 : b'.tmps.getD 70 undef = .bool false := h.dep 8 _ 70 (by kernel_rfl) rfl rfl
            have f74 : b'.tmps.getD 74 undef = .pointer (some ⟨c, 0, none⟩) := h.dep 12 _ 74 (by kernel_rfl) rfl rfl
            exact .inl ⟨by decide, good_field (wanted_yes rfl rfl f70) rfl f74 (by simp [go_sem]) rfl⟩
          · intro b' w' Lf h
            have f70 : b'.tmps.getD 70 undef = .bool false := h.dep 8 _ 70 (by kernel_rfl) rfl rfl
            have f75 : b'.tmps.getD 75 undef = .pointer (some ⟨c, 1, none⟩) := h.dep 13 _ 75 (by kernel_rfl) rfl rfl
            obtain ⟨A', cap', c0, c1, _, _, _⟩ := h.obj.2.lay
            exact .inl ⟨by decide, good_load (wanted_yes rfl rfl f70) rfl f75 (by simp [go_sem, c1]) rfl⟩
          · intro b' w' Lf h
            have f70 : b'.tmps.getD 70 undef = .bool false := h.dep 8 _ 70 (by kernel_rfl) rfl rfl
            have f72 : b'.tmps.getD 72 undef = .int .i64 (st2).2 := h.dep 10 _ 72 (by kernel_rfl) rfl rfl
            have f76 : b'.tmps.getD 76 undef = .int .i64 (st2).2 := h.dep 14 _ 76 (by kernel_rfl) rfl rfl
            exact .inl ⟨by decide, (good_bin (wanted_yes rfl rfl f70) rfl f72 f76 (by exact guard_int _) (by exact run_neq_int Try.underlying31 _ _) rfl)⟩
          · intro b' w' Lf h
            have f70 : b'.tmps.getD 70 undef = .bool false := h.dep 8 _ 70 (by kernel_rfl) rfl rfl
            have f77 : b'.tmps.getD 77 undef = .bool false := h.dep 15 _ 77 (by kernel_rfl) rfl rfl
            exact .inl ⟨by decide, (good_pickF (wanted_none rfl) rfl f70 f77)⟩
        intro b1 w7 hF7 hd7 hz7 he7 hf7 hJ7
        obtain ⟨hR7, hQ7⟩ := hJ7 (fun j => decide (j < 17)) (by intro j hj; simpa using hj) (by intro j hj; simpa using hj)
        have f78 : b1.tmps.getD 78 undef = .bool false := hf7 16 _ 78 rfl rfl
        have e := frame_puts hd7 hz7 he7
        obtain ⟨x, hx⟩ : ∃ x : Nat → Value, ∀ d, b1.tmps.getD d undef = x d := ⟨_, fun _ => rfl⟩
        rw [show dstsOf _ = [62, 63, 64, 65, 66, 67, 68, 69, 70, 71, 72, 73, 74, 75, 76, 77, 78] from rfl] at e
        simp only [List.foldl_cons, List.foldl_nil, hx, Act.put, List.setIfInBounds_toArray, List.set_cons_succ, List.set_cons_zero] at e f78
        rw [f78] at e
        clear hf7 hJ7 he7 hz7 hd7 hx
        subst e
        clear f78
        replace hR7 := hide hR7
        replace hQ7 := hide hQ7
        go_wp2_with fail
        go_roundw
        case rel => exact ⟨k + 1, st2, by go_num, hkl, hR7.out, hQ7.out, extB hX (hF1.more (by intro x _ hx; simp at hx; simp [hx])) (hF2.more (by intro x _ hx; simp at hx; simp [hx])) hF7 hbS⟩
        case measure => simp [intOf]; omega
      by_cases e1 : p1 = 1
      · subst e1
        obtain ⟨st2, hst2⟩ : ∃ st2, st2 = numSt 9 st.1 st.2 := ⟨_, rfl⟩
        replace hst2 := hide hst2
        go_wp2_with (first | (go_at_call 16; refine (rnum_c [c, b] b st.1 st.2 _ hR).mono ?_; rintro ee w4 ⟨rfl, hR1, hF1⟩) | (go_at_call 17; refine (qnum_c [c, b] c st.1 st.2 _ (Qdr.fr hQ hF1 (by simpa using hcb) (by simp))).mono ?_; rintro ee w5 ⟨rfl, hQ2, hF2⟩; have hR2 := Rdr.fr hR1 hF2 (by simpa using Ne.symm hcb) (by simp)))
        rw [← hst2.out] at hR2 hQ2
        refine wp_region_objs (S := [c, b]) (L18 b c st2) (fun _ x => Rdr x [c, b] b st2 ∧ Qdr x [c, b] c st2) [] (by kernel_rfl) (by kernel_rfl) (by kernel_rfl) (fun _ x y h k => ⟨rdr_ext h.1 k, qdr_ext h.2 k⟩) (fun _ _ _ _ h => h) ⟨hR2, hQ2⟩ ?_ ?_
        · refine ⟨?_, ?_, ?_, ?_, ?_, ?_, ?_, ?_, ?_, ?_, ?_, ?_, ?_, ?_, ?_, ?_, ?_, trivial⟩
          · intro b' w' Lf h
            have f5 : b'.tmps.getD 5 undef = .pointer (some ⟨b, 0, none⟩) := h.else_ 5 (of_decide_eq_true (by kernel_rfl))
            exact .inl ⟨by decide, (good_move (wanted_none rfl) rfl f5)⟩
          · intro b' w' Lf h
            have f62 : b'.tmps.getD 62 undef = .pointer (some ⟨b, 0, none⟩) := h.dep 0 _ 62 (by kernel_rfl) rfl rfl
            refine .inl ⟨by decide, good_call (wanted_none rfl) rfl (enters Try.func22 (by kernel_rfl) rfl) ?_⟩
            rw [show (#[.tmp 62] : Array Operand).map b'.eval = #[.pointer (some ⟨b, 0, none⟩)] by simp [Act.eval, f62]]
            exact (left_c _ b _ _ _ h.obj.1).mono fun e w1 ⟨he, hx⟩ => ⟨_, he, rfl, hx ▸ Ext.refl _⟩
          · intro b' w' Lf h
            have f6 : b'.tmps.getD 6 undef = .pointer (some ⟨c, 0, none⟩) := h.else_ 6 (of_decide_eq_true (by kernel_rfl))
            exact .inl ⟨by decide, (good_move (wanted_none rfl) rfl f6)⟩
          · intro b' w' Lf h
            have f64 : b'.tmps.getD 64 undef = .pointer (some ⟨c, 0, none⟩) := h.dep 2 _ 64 (by kernel_rfl) rfl rfl
            exact .inl ⟨by decide, good_nilCheck (wanted_none rfl) rfl f64 rfl⟩
          · intro b' w' Lf h
            have f65 : b'.tmps.getD 65 undef = .pointer (some ⟨c, 0, none⟩) := h.dep 3 _ 65 (by kernel_rfl) rfl rfl
            exact .inl ⟨by decide, good_field (wanted_none rfl) rfl f65 (by simp [go_sem]) rfl⟩
          · intro b' w' Lf h
            have f66 : b'.tmps.getD 66 undef = .pointer (some ⟨c, 0, none⟩) := h.dep 4 _ 66 (by kernel_rfl) rfl rfl
            obtain ⟨A', cap', c0, c1, _, _, _⟩ := h.obj.2.lay
            exact .inl ⟨by decide, good_load (wanted_none rfl) rfl f66 (v := .slice A' (st2).1.length cap') (by simp [go_sem, c0]) ⟨_, _, rfl⟩⟩
          · intro b' w' Lf h
            have f67 := h.dep 5 _ 67 (by kernel_rfl) rfl rfl
            obtain ⟨A', cap', e67⟩ := f67
            exact .inl ⟨by decide, good_len (wanted_none rfl) rfl Try.underlying23 e67 rfl⟩
          · intro b' w' Lf h
            have f63 : b'.tmps.getD 63 undef = .int .i64 (st2).1.length := h.dep 1 _ 63 (by kernel_rfl) rfl rfl
            have f68 : b'.tmps.getD 68 undef = .int .i64 (st2).1.length := h.dep 6 _ 68 (by kernel_rfl) rfl rfl
            exact .inl ⟨by decide, (good_bin (wanted_none rfl) rfl f63 f68 (by exact guard_int _) (by exact run_neq_int Try.underlying3 _ _) rfl)⟩
          · intro b' w' Lf h
            have f69 : b'.tmps.getD 69 undef = .bool false := h.dep 7 _ 69 (by kernel_rfl) rfl rfl
            exact .inl ⟨by decide, (good_move (wanted_none rfl) rfl f69)⟩
          · intro b' w' Lf h
            have f70 : b'.tmps.getD 70 undef = .bool false := h.dep 8 _ 70 (by kernel_rfl) rfl rfl
            have f5 : b'.tmps.getD 5 undef = .pointer (some ⟨b, 0, none⟩) := h.else_ 5 (of_decide_eq_true (by kernel_rfl))
            exact .inl ⟨by decide, (good_move (wanted_yes rfl rfl f70) rfl f5)⟩
          · intro b' w' Lf h
            have f70 : b'.tmps.getD 70 undef = .bool false := h.dep 8 _ 70 (by kernel_rfl) rfl rfl
            have f71 : b'.tmps.getD 71 undef = .pointer (some ⟨b, 0, none⟩) := h.dep 9 _ 71 (by kernel_rfl) rfl rfl
            refine .inl ⟨by decide, good_call (wanted_yes rfl rfl f70) rfl (enters Try.func23 (by kernel_rfl) rfl) ?_⟩
            rw [show (#[.tmp 71] : Array Operand).map b'.eval = #[.pointer (some ⟨b, 0, none⟩)] by simp [Act.eval, f71]]
            exact (err_c _ b _ _ _ h.obj.1).mono fun e w1 ⟨he, hx⟩ => ⟨_, he, rfl, hx ▸ Ext.refl _⟩
          · intro b' w' Lf h
            have f70 : b'.tmps.getD 70 undef = .bool false := h.dep 8 _ 70 (by kernel_rfl) rfl rfl
            have f6 : b'.tmps.getD 6 undef = .pointer (some ⟨c, 0, none⟩) := h.else_ 6 (of_decide_eq_true (by kernel_rfl))
            exact .inl ⟨by decide, (good_move (wanted_yes rfl rfl f70) rfl f6)⟩
          · intro b' w' Lf h
            have f70 : b'.tmps.getD 70 undef = .bool false := h.dep 8 _ 70 (by kernel_rfl) rfl rfl
            have f73 : b'.tmps.getD 73 undef = .pointer (some ⟨c, 0, none⟩) := h.dep 11 _ 73 (by kernel_rfl) rfl rfl
            exact .inl ⟨by decide, good_nilCheck (wanted_yes rfl rfl f70) rfl f73 rfl⟩
          · intro b' w' Lf h
            have f70 : b'.tmps.getD 70 undef = .bool false := h.dep 8 _ 70 (by kernel_rfl) rfl rfl
            have f74 : b'.tmps.getD 74 undef = .pointer (some ⟨c, 0, none⟩) := h.dep 12 _ 74 (by kernel_rfl) rfl rfl
            exact .inl ⟨by decide, good_field (wanted_yes rfl rfl f70) rfl f74 (by simp [go_sem]) rfl⟩
          · intro b' w' Lf h
            have f70 : b'.tmps.getD 70 undef = .bool false := h.dep 8 _ 70 (by kernel_rfl) rfl rfl
            have f75 : b'.tmps.getD 75 undef = .pointer (some ⟨c, 1, none⟩) := h.dep 13 _ 75 (by kernel_rfl) rfl rfl
            obtain ⟨A', cap', c0, c1, _, _, _⟩ := h.obj.2.lay
            exact .inl ⟨by decide, good_load (wanted_yes rfl rfl f70) rfl f75 (by simp [go_sem, c1]) rfl⟩
          · intro b' w' Lf h
            have f70 : b'.tmps.getD 70 undef = .bool false := h.dep 8 _ 70 (by kernel_rfl) rfl rfl
            have f72 : b'.tmps.getD 72 undef = .int .i64 (st2).2 := h.dep 10 _ 72 (by kernel_rfl) rfl rfl
            have f76 : b'.tmps.getD 76 undef = .int .i64 (st2).2 := h.dep 14 _ 76 (by kernel_rfl) rfl rfl
            exact .inl ⟨by decide, (good_bin (wanted_yes rfl rfl f70) rfl f72 f76 (by exact guard_int _) (by exact run_neq_int Try.underlying31 _ _) rfl)⟩
          · intro b' w' Lf h
            have f70 : b'.tmps.getD 70 undef = .bool false := h.dep 8 _ 70 (by kernel_rfl) rfl rfl
            have f77 : b'.tmps.getD 77 undef = .bool false := h.dep 15 _ 77 (by kernel_rfl) rfl rfl
            exact .inl ⟨by decide, (good_pickF (wanted_none rfl) rfl f70 f77)⟩
        intro b1 w7 hF7 hd7 hz7 he7 hf7 hJ7
        obtain ⟨hR7, hQ7⟩ := hJ7 (fun j => decide (j < 17)) (by intro j hj; simpa using hj) (by intro j hj; simpa using hj)
        have f78 : b1.tmps.getD 78 undef = .bool false := hf7 16 _ 78 rfl rfl
        have e := frame_puts hd7 hz7 he7
        obtain ⟨x, hx⟩ : ∃ x : Nat → Value, ∀ d, b1.tmps.getD d undef = x d := ⟨_, fun _ => rfl⟩
        rw [show dstsOf _ = [62, 63, 64, 65, 66, 67, 68, 69, 70, 71, 72, 73, 74, 75, 76, 77, 78] from rfl] at e
        simp only [List.foldl_cons, List.foldl_nil, hx, Act.put, List.setIfInBounds_toArray, List.set_cons_succ, List.set_cons_zero] at e f78
        rw [f78] at e
        clear hf7 hJ7 he7 hz7 hd7 hx
        subst e
        clear f78
        replace hR7 := hide hR7
        replace hQ7 := hide hQ7
        go_wp2_with fail
        go_roundw
        case rel => exact ⟨k + 1, st2, by go_num, hkl, hR7.out, hQ7.out, extB hX (hF1.more (by intro x _ hx; simp at hx; simp [hx])) (hF2.more (by intro x _ hx; simp at hx; simp [hx])) hF7 hbS⟩
        case measure => simp [intOf]; omega
      by_cases e2 : p1 = 2
      · subst e2
        obtain ⟨st2, hst2⟩ : ∃ st2, st2 = numSt 10 st.1 st.2 := ⟨_, rfl⟩
        replace hst2 := hide hst2
        go_wp2_with (first | (go_at_call 18; refine (rint_c [c, b] b st.1 st.2 _ hR).mono ?_; rintro ee w4 ⟨rfl, hR1, hF1⟩) | (go_at_call 19; refine (qint_c [c, b] c st.1 st.2 _ (Qdr.fr hQ hF1 (by simpa using hcb) (by simp))).mono ?_; rintro ee w5 ⟨rfl, hQ2, hF2⟩; have hR2 := Rdr.fr hR1 hF2 (by simpa using Ne.symm hcb) (by simp)))
        rw [← hst2.out] at hR2 hQ2
        refine wp_region_objs (S := [c, b]) (L18 b c st2) (fun _ x => Rdr x [c, b] b st2 ∧ Qdr x [c, b] c st2) [] (by kernel_rfl) (by kernel_rfl) (by kernel_rfl) (fun _ x y h k => ⟨rdr_ext h.1 k, qdr_ext h.2 k⟩) (fun _ _ _ _ h => h) ⟨hR2, hQ2⟩ ?_ ?_
        · refine ⟨?_, ?_, ?_, ?_, ?_, ?_, ?_, ?_, ?_, ?_, ?_, ?_, ?_, ?_, ?_, ?_, ?_, trivial⟩
          · intro b' w' Lf h
            have f5 : b'.tmps.getD 5 undef = .pointer (some ⟨b, 0, none⟩) := h.else_ 5 (of_decide_eq_true (by kernel_rfl))
            exact .inl ⟨by decide, (good_move (wanted_none rfl) rfl f5)⟩
          · intro b' w' Lf h
            have f62 : b'.tmps.getD 62 undef = .pointer (some ⟨b, 0, none⟩) := h.dep 0 _ 62 (by kernel_rfl) rfl rfl
            refine .inl ⟨by decide, good_call (wanted_none rfl) rfl (enters Try.func22 (by kernel_rfl) rfl) ?_⟩
            rw [show (#[.tmp 62] : Array Operand).map b'.eval = #[.pointer (some ⟨b, 0, none⟩)] by simp [Act.eval, f62]]
            exact (left_c _ b _ _ _ h.obj.1).mono fun e w1 ⟨he, hx⟩ => ⟨_, he, rfl, hx ▸ Ext.refl _⟩
          · intro b' w' Lf h
            have f6 : b'.tmps.getD 6 undef = .pointer (some ⟨c, 0, none⟩) := h.else_ 6 (of_decide_eq_true (by kernel_rfl))
            exact .inl ⟨by decide, (good_move (wanted_none rfl) rfl f6)⟩
          · intro b' w' Lf h
            have f64 : b'.tmps.getD 64 undef = .pointer (some ⟨c, 0, none⟩) := h.dep 2 _ 64 (by kernel_rfl) rfl rfl
            exact .inl ⟨by decide, good_nilCheck (wanted_none rfl) rfl f64 rfl⟩
          · intro b' w' Lf h
            have f65 : b'.tmps.getD 65 undef = .pointer (some ⟨c, 0, none⟩) := h.dep 3 _ 65 (by kernel_rfl) rfl rfl
            exact .inl ⟨by decide, good_field (wanted_none rfl) rfl f65 (by simp [go_sem]) rfl⟩
          · intro b' w' Lf h
            have f66 : b'.tmps.getD 66 undef = .pointer (some ⟨c, 0, none⟩) := h.dep 4 _ 66 (by kernel_rfl) rfl rfl
            obtain ⟨A', cap', c0, c1, _, _, _⟩ := h.obj.2.lay
            exact .inl ⟨by decide, good_load (wanted_none rfl) rfl f66 (v := .slice A' (st2).1.length cap') (by simp [go_sem, c0]) ⟨_, _, rfl⟩⟩
          · intro b' w' Lf h
            have f67 := h.dep 5 _ 67 (by kernel_rfl) rfl rfl
            obtain ⟨A', cap', e67⟩ := f67
            exact .inl ⟨by decide, good_len (wanted_none rfl) rfl Try.underlying23 e67 rfl⟩
          · intro b' w' Lf h
            have f63 : b'.tmps.getD 63 undef = .int .i64 (st2).1.length := h.dep 1 _ 63 (by kernel_rfl) rfl rfl
            have f68 : b'.tmps.getD 68 undef = .int .i64 (st2).1.length := h.dep 6 _ 68 (by kernel_rfl) rfl rfl
            exact .inl ⟨by decide, (good_bin (wanted_none rfl) rfl f63 f68 (by exact guard_int _) (by exact run_neq_int Try.underlying3 _ _) rfl)⟩
          · intro b' w' Lf h
            have f69 : b'.tmps.getD 69 undef = .bool false := h.dep 7 _ 69 (by kernel_rfl) rfl rfl
            exact .inl ⟨by decide, (good_move (wanted_none rfl) rfl f69)⟩
          · intro b' w' Lf h
            have f70 : b'.tmps.getD 70 undef = .bool false := h.dep 8 _ 70 (by kernel_rfl) rfl rfl
            have f5 : b'.tmps.getD 5 undef = .pointer (some ⟨b, 0, none⟩) := h.else_ 5 (of_decide_eq_true (by kernel_rfl))
            exact .inl ⟨by decide, (good_move (wanted_yes rfl rfl f70) rfl f5)⟩
          · intro b' w' Lf h
            have f70 : b'.tmps.getD 70 undef = .bool false := h.dep 8 _ 70 (by kernel_rfl) rfl rfl
            have f71 : b'.tmps.getD 71 undef = .pointer (some ⟨b, 0, none⟩) := h.dep 9 _ 71 (by kernel_rfl) rfl rfl
            refine .inl ⟨by decide, good_call (wanted_yes rfl rfl f70) rfl (enters Try.func23 (by kernel_rfl) rfl) ?_⟩
            rw [show (#[.tmp 71] : Array Operand).map b'.eval = #[.pointer (some ⟨b, 0, none⟩)] by simp [Act.eval, f71]]
            exact (err_c _ b _ _ _ h.obj.1).mono fun e w1 ⟨he, hx⟩ => ⟨_, he, rfl, hx ▸ Ext.refl _⟩
          · intro b' w' Lf h
            have f70 : b'.tmps.getD 70 undef = .bool false := h.dep 8 _ 70 (by kernel_rfl) rfl rfl
            have f6 : b'.tmps.getD 6 undef = .pointer (some ⟨c, 0, none⟩) := h.else_ 6 (of_decide_eq_true (by kernel_rfl))
            exact .inl ⟨by decide, (good_move (wanted_yes rfl rfl f70) rfl f6)⟩
          · intro b' w' Lf h
            have f70 : b'.tmps.getD 70 undef = .bool false := h.dep 8 _ 70 (by kernel_rfl) rfl rfl
            have f73 : b'.tmps.getD 73 undef = .pointer (some ⟨c, 0, none⟩) := h.dep 11 _ 73 (by kernel_rfl) rfl rfl
            exact .inl ⟨by decide, good_nilCheck (wanted_yes rfl rfl f70) rfl f73 rfl⟩
          · intro b' w' Lf h
            have f70 : b'.tmps.getD 70 undef = .bool false := h.dep 8 _ 70 (by kernel_rfl) rfl rfl
            have f74 : b'.tmps.getD 74 undef = .pointer (some ⟨c, 0, none⟩) := h.dep 12 _ 74 (by kernel_rfl) rfl rfl
            exact .inl ⟨by decide, good_field (wanted_yes rfl rfl f70) rfl f74 (by simp [go_sem]) rfl⟩
          · intro b' w' Lf h
            have f70 : b'.tmps.getD 70 undef = .bool false := h.dep 8 _ 70 (by kernel_rfl) rfl rfl
            have f75 : b'.tmps.getD 75 undef = .pointer (some ⟨c, 1, none⟩) := h.dep 13 _ 75 (by kernel_rfl) rfl rfl
            obtain ⟨A', cap', c0, c1, _, _, _⟩ := h.obj.2.lay
            exact .inl ⟨by decide, good_load (wanted_yes rfl rfl f70) rfl f75 (by simp [go_sem, c1]) rfl⟩
          · intro b' w' Lf h
            have f70 : b'.tmps.getD 70 undef = .bool false := h.dep 8 _ 70 (by kernel_rfl) rfl rfl
            have f72 : b'.tmps.getD 72 undef = .int .i64 (st2).2 := h.dep 10 _ 72 (by kernel_rfl) rfl rfl
            have f76 : b'.tmps.getD 76 undef = .int .i64 (st2).2 := h.dep 14 _ 76 (by kernel_rfl) rfl rfl
            exact .inl ⟨by decide, (good_bin (wanted_yes rfl rfl f70) rfl f72 f76 (by exact guard_int _) (by exact run_neq_int Try.underlying31 _ _) rfl)⟩
          · intro b' w' Lf h
            have f70 : b'.tmps.getD 70 undef = .bool false := h.dep 8 _ 70 (by kernel_rfl) rfl rfl
            have f77 : b'.tmps.getD 77 undef = .bool false := h.dep 15 _ 77 (by kernel_rfl) rfl rfl
            exact .inl ⟨by decide, (good_pickF (wanted_none rfl) rfl f70 f77)⟩
        intro b1 w7 hF7 hd7 hz7 he7 hf7 hJ7
        obtain ⟨hR7, hQ7⟩ := hJ7 (fun j => decide (j < 17)) (by intro j hj; simpa using hj) (by intro j hj; simpa using hj)
        have f78 : b1.tmps.getD 78 undef = .bool false := hf7 16 _ 78 rfl rfl
        have e := frame_puts hd7 hz7 he7
        obtain ⟨x, hx⟩ : ∃ x : Nat → Value, ∀ d, b1.tmps.getD d undef = x d := ⟨_, fun _ => rfl⟩
        rw [show dstsOf _ = [62, 63, 64, 65, 66, 67, 68, 69, 70, 71, 72, 73, 74, 75, 76, 77, 78] from rfl] at e
        simp only [List.foldl_cons, List.foldl_nil, hx, Act.put, List.setIfInBounds_toArray, List.set_cons_succ, List.set_cons_zero] at e f78
        rw [f78] at e
        clear hf7 hJ7 he7 hz7 hd7 hx
        subst e
        clear f78
        replace hR7 := hide hR7
        replace hQ7 := hide hQ7
        go_wp2_with fail
        go_roundw
        case rel => exact ⟨k + 1, st2, by go_num, hkl, hR7.out, hQ7.out, extB hX (hF1.more (by intro x _ hx; simp at hx; simp [hx])) (hF2.more (by intro x _ hx; simp at hx; simp [hx])) hF7 hbS⟩
        case measure => simp [intOf]; omega
      have t0 : (p1 == 0) = false := by simp [e0]
      have t1 : (p1 == 1) = false := by simp [e1]
      have t2 : (p1 == 2) = false := by simp [e2]
      clear e0 e1 e2
      go_wp2_with fail
      refine wp_region_objs (S := [c, b]) (L7 p2 g o k b c ws cap st) (fun L x => Rdr x [c, b] b (if L 6 then textSt p2 st.1 st.2 else st) ∧ Qdr x [c, b] c (if L 13 then textSt p2 st.1 st.2 else st)) [6, 13] (by kernel_rfl) (by kernel_rfl) (by kernel_rfl) (fun _ x y h k => ⟨rdr_ext h.1 k, qdr_ext h.2 k⟩) (fun L L' x hk h => by rw [← hk 6 (by simp), ← hk 13 (by simp)]; exact h) ⟨hR, hQ⟩ ?_ ?_
      · refine ⟨?_, ?_, ?_, ?_, ?_, ?_, ?_, ?_, ?_, ?_, ?_, ?_, ?_, ?_, ?_, trivial⟩
        · intro b' w' Lf h
          have f5 : b'.tmps.getD 5 undef = .pointer (some ⟨b, 0, none⟩) := h.else_ 5 (of_decide_eq_true (by kernel_rfl))
          exact .inl ⟨by decide, (good_move (wanted_none rfl) rfl f5)⟩
        · intro b' w' Lf h
          have f1 : b'.tmps.getD 1 undef = .slice (some ⟨g, o, none⟩) ws.length cap := h.else_ 1 (of_decide_eq_true (by kernel_rfl))
          exact .inl ⟨by decide, (good_move (wanted_none rfl) rfl f1)⟩
        · intro b' w' Lf h
          have f7 : b'.tmps.getD 7 undef = .int .i64 k := h.else_ 7 (of_decide_eq_true (by kernel_rfl))
          exact .inl ⟨by decide, (good_move (wanted_none rfl) rfl f7)⟩
        · intro b' w' Lf h
          have f27 : b'.tmps.getD 27 undef = .slice (some ⟨g, o, none⟩) ws.length cap := h.dep 1 _ 27 (by kernel_rfl) rfl rfl
          have f28 : b'.tmps.getD 28 undef = .int .i64 k := h.dep 2 _ 28 (by kernel_rfl) rfl rfl
          exact .inl ⟨by decide, good_index (wanted_none rfl) rfl f27 f28 (by simp [go_sem, hkl]) rfl⟩
        · intro b' w' Lf h
          have f29 : b'.tmps.getD 29 undef = .pointer (some ⟨g, o + k * 2, none⟩) := h.dep 3 _ 29 (by kernel_rfl) rfl rfl
          exact .inl ⟨by decide, good_field (wanted_none rfl) rfl f29 (by simp [go_sem]) rfl⟩
        · intro b' w' Lf h
          have f30 : b'.tmps.getD 30 undef = .pointer (some ⟨g, o + k * 2 + 1, none⟩) := h.dep 4 _ 30 (by kernel_rfl) rfl rfl
          exact .inl ⟨by decide, good_load (wanted_none rfl) rfl f30 (by simp [go_sem, hcell.out _ h.ext]) rfl⟩
        · intro b' w' Lf h
          have f26 : b'.tmps.getD 26 undef = .pointer (some ⟨b, 0, none⟩) := h.dep 0 _ 26 (by kernel_rfl) rfl rfl
          have f31 : b'.tmps.getD 31 undef = .int .i64 p2 := h.dep 5 _ 31 (by kernel_rfl) rfl rfl
          refine .inr (goodM_call (wanted_none rfl) rfl (enters Try.func20 (by kernel_rfl) rfl) ?_)
          rw [show (#[.tmp 26, .tmp 31] : Array Operand).map b'.eval = #[.pointer (some ⟨b, 0, none⟩), .int .i64 p2] by simp [Act.eval, f26, f31]]
          have hfr := h.fresh
          obtain ⟨j1, j2⟩ := h.obj
          rw [hfr] at j1
          exact (rtext_c _ b _ _ _ _ j1).mono fun e w1 ⟨he, hR, hF⟩ => ⟨_, he, rfl, hF.more (by intro x _ hx; simp at hx; simp [hx]), by unfold done; simp only [if_true]; exact hR, by unfold done; simp only [show ¬ (13 = 6) by decide, if_false]; exact j2.fr hF (by simpa using hcb) (by simp)⟩
        · intro b' w' Lf h
          have f6 : b'.tmps.getD 6 undef = .pointer (some ⟨c, 0, none⟩) := h.else_ 6 (of_decide_eq_true (by kernel_rfl))
          exact .inl ⟨by decide, (good_move (wanted_none rfl) rfl f6)⟩
        · intro b' w' Lf h
          have f1 : b'.tmps.getD 1 undef = .slice (some ⟨g, o, none⟩) ws.length cap := h.else_ 1 (of_decide_eq_true (by kernel_rfl))
          exact .inl ⟨by decide, (good_move (wanted_none rfl) rfl f1)⟩
        · intro b' w' Lf h
          have f7 : b'.tmps.getD 7 undef = .int .i64 k := h.else_ 7 (of_decide_eq_true (by kernel_rfl))
          exact .inl ⟨by decide, (good_move (wanted_none rfl) rfl f7)⟩
        · intro b' w' Lf h
          have f34 : b'.tmps.getD 34 undef = .slice (some ⟨g, o, none⟩) ws.length cap := h.dep 8 _ 34 (by kernel_rfl) rfl rfl
          have f35 : b'.tmps.getD 35 undef = .int .i64 k := h.dep 9 _ 35 (by kernel_rfl) rfl rfl
          exact .inl ⟨by decide, good_index (wanted_none rfl) rfl f34 f35 (by simp [go_sem, hkl]) rfl⟩
        · intro b' w' Lf h
          have f36 : b'.tmps.getD 36 undef = .pointer (some ⟨g, o + k * 2, none⟩) := h.dep 10 _ 36 (by kernel_rfl) rfl rfl
          exact .inl ⟨by decide, good_field (wanted_none rfl) rfl f36 (by simp [go_sem]) rfl⟩
        · intro b' w' Lf h
          have f37 : b'.tmps.getD 37 undef = .pointer (some ⟨g, o + k * 2 + 1, none⟩) := h.dep 11 _ 37 (by kernel_rfl) rfl rfl
          exact .inl ⟨by decide, good_load (wanted_none rfl) rfl f37 (by simp [go_sem, hcell.out _ h.ext]) rfl⟩
        · intro b' w' Lf h
          have f33 : b'.tmps.getD 33 undef = .pointer (some ⟨c, 0, none⟩) := h.dep 7 _ 33 (by kernel_rfl) rfl rfl
          have f38 : b'.tmps.getD 38 undef = .int .i64 p2 := h.dep 12 _ 38 (by kernel_rfl) rfl rfl
          refine .inr (goodM_call (wanted_none rfl) rfl (enters Try.func21 (by kernel_rfl) rfl) ?_)
          rw [show (#[.tmp 33, .tmp 38] : Array Operand).map b'.eval = #[.pointer (some ⟨c, 0, none⟩), .int .i64 p2] by simp [Act.eval, f33, f38]]
          have hfr := h.fresh
          obtain ⟨j1, j2⟩ := h.obj
          rw [hfr] at j2
          exact (qtext_c _ c _ _ _ _ j2).mono fun e w1 ⟨he, hR, hF⟩ => ⟨_, he, rfl, hF.more (by intro x _ hx; simp at hx; simp [hx]), by unfold done; simp only [show ¬ (6 = 13) by decide, if_false]; exact j1.fr hF (by simpa using Ne.symm hcb) (by simp), by unfold done; simp only [if_true]; exact hR⟩
        · intro b' w' Lf h
          have f32 : b'.tmps.getD 32 undef = .string ⟨(textVal p2 st.1 st.2).toArray⟩ := h.dep 6 _ 32 (by kernel_rfl) rfl rfl
          have f39 : b'.tmps.getD 39 undef = .string ⟨(textVal p2 st.1 st.2).toArray⟩ := h.dep 13 _ 39 (by kernel_rfl) rfl rfl
          exact .inl ⟨by decide, (good_bin (wanted_none rfl) rfl f32 f39 (by exact guard_str _) (by exact run_neq_str Try.underlying9 _ _) rfl)⟩
      intro b1 w4 hF1 hd7 hz7 he7 hf7 hJ7
      have hJ := hJ7 (fun j => decide (j < 15)) (by intro j hj; simpa using hj) (by intro j hj; simpa using hj)
      simp only [show decide (6 < 15) = true from rfl, show decide (13 < 15) = true from rfl, if_true] at hJ
      obtain ⟨hR2, hQ2⟩ := hJ
      have f40 : b1.tmps.getD 40 undef = .bool false := hf7 14 _ 40 rfl rfl
      have e := frame_puts hd7 hz7 he7
      obtain ⟨x, hx⟩ : ∃ x : Nat → Value, ∀ d, b1.tmps.getD d undef = x d := ⟨_, fun _ => rfl⟩
      rw [show dstsOf _ = [26, 27, 28, 29, 30, 31, 32, 33, 34, 35, 36, 37, 38, 39, 40] from rfl] at e
      simp only [List.foldl_cons, List.foldl_nil, hx, Act.put, List.setIfInBounds_toArray, List.set_cons_succ, List.set_cons_zero] at e f40
      rw [f40] at e
      clear hf7 hJ7 he7 hz7 hd7 hx
      subst e
      obtain ⟨st2, hst2⟩ : ∃ st2, st2 = textSt p2 st.1 st.2 := ⟨_, rfl⟩
      rw [← hst2] at hR2 hQ2
      clear f40
      replace hst2 := hide hst2
      go_wp2_with fail
      refine wp_region_objs (S := [c, b]) (L18 b c st2) (fun _ x => Rdr x [c, b] b st2 ∧ Qdr x [c, b] c st2) [] (by kernel_rfl) (by kernel_rfl) (by kernel_rfl) (fun _ x y h k => ⟨rdr_ext h.1 k, qdr_ext h.2 k⟩) (fun _ _ _ _ h => h) ⟨hR2, hQ2⟩ ?_ ?_
      · refine ⟨?_, ?_, ?_, ?_, ?_, ?_, ?_, ?_, ?_, ?_, ?_, ?_, ?_, ?_, ?_, ?_, ?_, trivial⟩
        · intro b' w' Lf h
          have f5 : b'.tmps.getD 5 undef = .pointer (some ⟨b, 0, none⟩) := h.else_ 5 (of_decide_eq_true (by kernel_rfl))
          exact .inl ⟨by decide, (good_move (wanted_none rfl) rfl f5)⟩
        · intro b' w' Lf h
          have f62 : b'.tmps.getD 62 undef = .pointer (some ⟨b, 0, none⟩) := h.dep 0 _ 62 (by kernel_rfl) rfl rfl
          refine .inl ⟨by decide, good_call (wanted_none rfl) rfl (enters Try.func22 (by kernel_rfl) rfl) ?_⟩
          rw [show (#[.tmp 62] : Array Operand).map b'.eval = #[.pointer (some ⟨b, 0, none⟩)] by simp [Act.eval, f62]]
          exact (left_c _ b _ _ _ h.obj.1).mono fun e w1 ⟨he, hx⟩ => ⟨_, he, rfl, hx ▸ Ext.refl _⟩
        · intro b' w' Lf h
          have f6 : b'.tmps.getD 6 undef = .pointer (some ⟨c, 0, none⟩) := h.else_ 6 (of_decide_eq_true (by kernel_rfl))
          exact .inl ⟨by decide, (good_move (wanted_none rfl) rfl f6)⟩
        · intro b' w' Lf h
          have f64 : b'.tmps.getD 64 undef = .pointer (some ⟨c, 0, none⟩) := h.dep 2 _ 64 (by kernel_rfl) rfl rfl
          exact .inl ⟨by decide, good_nilCheck (wanted_none rfl) rfl f64 rfl⟩
        · intro b' w' Lf h
          have f65 : b'.tmps.getD 65 undef = .pointer (some ⟨c, 0, none⟩) := h.dep 3 _ 65 (by kernel_rfl) rfl rfl
          exact .inl ⟨by decide, good_field (wanted_none rfl) rfl f65 (by simp [go_sem]) rfl⟩
        · intro b' w' Lf h
          have f66 : b'.tmps.getD 66 undef = .pointer (some ⟨c, 0, none⟩) := h.dep 4 _ 66 (by kernel_rfl) rfl rfl
          obtain ⟨A', cap', c0, c1, _, _, _⟩ := h.obj.2.lay
          exact .inl ⟨by decide, good_load (wanted_none rfl) rfl f66 (v := .slice A' (st2).1.length cap') (by simp [go_sem, c0]) ⟨_, _, rfl⟩⟩
        · intro b' w' Lf h
          have f67 := h.dep 5 _ 67 (by kernel_rfl) rfl rfl
          obtain ⟨A', cap', e67⟩ := f67
          exact .inl ⟨by decide, good_len (wanted_none rfl) rfl Try.underlying23 e67 rfl⟩
        · intro b' w' Lf h
          have f63 : b'.tmps.getD 63 undef = .int .i64 (st2).1.length := h.dep 1 _ 63 (by kernel_rfl) rfl rfl
          have f68 : b'.tmps.getD 68 undef = .int .i64 (st2).1.length := h.dep 6 _ 68 (by kernel_rfl) rfl rfl
          exact .inl ⟨by decide, (good_bin (wanted_none rfl) rfl f63 f68 (by exact guard_int _) (by exact run_neq_int Try.underlying3 _ _) rfl)⟩
        · intro b' w' Lf h
          have f69 : b'.tmps.getD 69 undef = .bool false := h.dep 7 _ 69 (by kernel_rfl) rfl rfl
          exact .inl ⟨by decide, (good_move (wanted_none rfl) rfl f69)⟩
        · intro b' w' Lf h
          have f70 : b'.tmps.getD 70 undef = .bool false := h.dep 8 _ 70 (by kernel_rfl) rfl rfl
          have f5 : b'.tmps.getD 5 undef = .pointer (some ⟨b, 0, none⟩) := h.else_ 5 (of_decide_eq_true (by kernel_rfl))
          exact .inl ⟨by decide, (good_move (wanted_yes rfl rfl f70) rfl f5)⟩
        · intro b' w' Lf h
          have f70 : b'.tmps.getD 70 undef = .bool false := h.dep 8 _ 70 (by kernel_rfl) rfl rfl
          have f71 : b'.tmps.getD 71 undef = .pointer (some ⟨b, 0, none⟩) := h.dep 9 _ 71 (by kernel_rfl) rfl rfl
          refine .inl ⟨by decide, good_call (wanted_yes rfl rfl f70) rfl (enters Try.func23 (by kernel_rfl) rfl) ?_⟩
          rw [show (#[.tmp 71] : Array Operand).map b'.eval = #[.pointer (some ⟨b, 0, none⟩)] by simp [Act.eval, f71]]
          exact (err_c _ b _ _ _ h.obj.1).mono fun e w1 ⟨he, hx⟩ => ⟨_, he, rfl, hx ▸ Ext.refl _⟩
        · intro b' w' Lf h
          have f70 : b'.tmps.getD 70 undef = .bool false := h.dep 8 _ 70 (by kernel_rfl) rfl rfl
          have f6 : b'.tmps.getD 6 undef = .pointer (some ⟨c, 0, none⟩) := h.else_ 6 (of_decide_eq_true (by kernel_rfl))
          exact .inl ⟨by decide, (good_move (wanted_yes rfl rfl f70) rfl f6)⟩
        · intro b' w' Lf h
          have f70 : b'.tmps.getD 70 undef = .bool false := h.dep 8 _ 70 (by kernel_rfl) rfl rfl
          have f73 : b'.tmps.getD 73 undef = .pointer (some ⟨c, 0, none⟩) := h.dep 11 _ 73 (by kernel_rfl) rfl rfl
          exact .inl ⟨by decide, good_nilCheck (wanted_yes rfl rfl f70) rfl f73 rfl⟩
        · intro b' w' Lf h
          have f70 : b'.tmps.getD 70 undef = .bool false := h.dep 8 _ 70 (by kernel_rfl) rfl rfl
          have f74 : b'.tmps.getD 74 undef = .pointer (some ⟨c, 0, none⟩) := h.dep 12 _ 74 (by kernel_rfl) rfl rfl
          exact .inl ⟨by decide, good_field (wanted_yes rfl rfl f70) rfl f74 (by simp [go_sem]) rfl⟩
        · intro b' w' Lf h
          have f70 : b'.tmps.getD 70 undef = .bool false := h.dep 8 _ 70 (by kernel_rfl) rfl rfl
          have f75 : b'.tmps.getD 75 undef = .pointer (some ⟨c, 1, none⟩) := h.dep 13 _ 75 (by kernel_rfl) rfl rfl
          obtain ⟨A', cap', c0, c1, _, _, _⟩ := h.obj.2.lay
          exact .inl ⟨by decide, good_load (wanted_yes rfl rfl f70) rfl f75 (by simp [go_sem, c1]) rfl⟩
        · intro b' w' Lf h
          have f70 : b'.tmps.getD 70 undef = .bool false := h.dep 8 _ 70 (by kernel_rfl) rfl rfl
          have f72 : b'.tmps.getD 72 undef = .int .i64 (st2).2 := h.dep 10 _ 72 (by kernel_rfl) rfl rfl
          have f76 : b'.tmps.getD 76 undef = .int .i64 (st2).2 := h.dep 14 _ 76 (by kernel_rfl) rfl rfl
          exact .inl ⟨by decide, (good_bin (wanted_yes rfl rfl f70) rfl f72 f76 (by exact guard_int _) (by exact run_neq_int Try.underlying31 _ _) rfl)⟩
        · intro b' w' Lf h
          have f70 : b'.tmps.getD 70 undef = .bool false := h.dep 8 _ 70 (by kernel_rfl) rfl rfl
          have f77 : b'.tmps.getD 77 undef = .bool false := h.dep 15 _ 77 (by kernel_rfl) rfl rfl
          exact .inl ⟨by decide, (good_pickF (wanted_none rfl) rfl f70 f77)⟩
      intro b2 w7 hF7 hd7 hz7 he7 hf7 hJ7
      obtain ⟨hR7, hQ7⟩ := hJ7 (fun j => decide (j < 17)) (by intro j hj; simpa using hj) (by intro j hj; simpa using hj)
      have f78 : b2.tmps.getD 78 undef = .bool false := hf7 16 _ 78 rfl rfl
      have e := frame_puts hd7 hz7 he7
      obtain ⟨x, hx⟩ : ∃ x : Nat → Value, ∀ d, b2.tmps.getD d undef = x d := ⟨_, fun _ => rfl⟩
      rw [show dstsOf _ = [62, 63, 64, 65, 66, 67, 68, 69, 70, 71, 72, 73, 74, 75, 76, 77, 78] from rfl] at e
      simp only [List.foldl_cons, List.foldl_nil, hx, Act.put, List.setIfInBounds_toArray, List.set_cons_succ, List.set_cons_zero] at e f78
      rw [f78] at e
      clear hf7 hJ7 he7 hz7 hd7 hx
      subst e
      clear f78
      replace hR7 := hide hR7
      replace hQ7 := hide hQ7
      go_wp2_with fail
      go_roundw
      case rel => exact ⟨k + 1, st2, by go_num, hkl, hR7.out, hQ7.out, extB hX hF1 (Fr.refl _ _) hF7 hbS⟩
      case measure => simp [intOf]; omega
    · go_wp2_with (go_at_call 6; refine (live_c _).mono ?_; rintro ee wz ⟨rfl, hXz⟩)
      go_returns
      exact ⟨rfl, hX.trans hXz⟩
theorem own : ownKnob Try.prog.godebug = none := by kernel_rfl
theorem laidOut : laidOutB Try.prog = true := by kernel_rfl
set_option maxRecDepth 100000 in
theorem lifted (os : Os) (started : os.Started) (H : Type) (enc : TypeId × Value → H) :
    ReturnsInHanded {} Try.checked os 4 .any (Rows.binReadsSpec.pre6 enc Try.prog Try.f4 Rows.binReadsRow.domain false) (Rows.binReadsSpec.post enc Try.prog Try.f4 false true false false) := by
  refine returnsInHanded_of_change_sized (C := Try.checked) own started (by kernel_rfl) Try.func4
    (ChangeSpec.witness6 (enc := enc) (C := Try.checked) false ⟨#[], #[.slice none 0 0, .slice none 0 0], []⟩ 8 (by kernel_rfl) (by kernel_rfl) (by kernel_rfl) (by kernel_rfl)) ?_
  intro W base args ds gs before hval0 hW hcnd hsz0 _
  have hsz : (DataW.weightsEach Try.prog (Try.f4.params.toList ++ Rows.binReadsSpec.plain.varTypes Try.prog) (ds ++ gs)).all (· ≤ reachBytes) = true := hsz0
  clear hsz0
  have hval : ∀ (j : Nat) t v, Try.f4.params[j]? = some t → args[j]? = some v → Value.okWide Try.prog W .any base t v := hval0
  have hW' := hW
  obtain ⟨p, q, hA0, hV, rfl, hfz, hnd⟩ := hW
  have hA : DataW.TrodAll enc Try.prog W 0 (fun _ => true) true Try.f4.params.toList args.toList ds p := hA0
  rw [Try.params4] at hA hval hsz
  obtain ⟨v0, vs0, d0, ds0, p0, q0, hargs, rfl, rfl, h0, r0⟩ := trodAll_cons hA
  obtain ⟨v1, vs1, d1, ds1, p1, q1, rfl, rfl, rfl, h1, r1⟩ := trodAll_cons r0
  obtain ⟨rfl, rfl, rfl⟩ := trodAll_nil r1
  obtain rfl : args = #[v0, v1] := by cases args; simp_all
  obtain ⟨rfl, rfl⟩ := trodVars_none hV
  have k0 := h0
  have lt0 : ∀ x ∈ p0, x.block < W.heap.size := by obtain ⟨m, hm⟩ := k0; exact DataW.trod_lt m _ _ _ hm
  obtain ⟨A0, n0, c0, rfl⟩ := okWide_slice Try.underlying23 (hval 0 23 v0 rfl rfl)
  have ⟨m0, hm0⟩ := h0
  obtain ⟨l, ll, hl⟩ := open_bytes Try.underlying23 Try.underlying5 (by kernel_rfl) hm0
  have zl : l.length ≤ 140737488351232 := by rw [ll]; exact sized_len hsz (j := 0) (t := 23) (e := 5) rfl rfl Try.underlying23 (of_decide_eq_true (by kernel_rfl))
  have k1 := h1
  have lt1 : ∀ x ∈ p1, x.block < W.heap.size := by obtain ⟨m, hm⟩ := k1; exact DataW.trod_lt m _ _ _ hm
  obtain ⟨A1, n1, c1, rfl⟩ := okWide_slice Try.underlying27 (hval 1 27 v1 rfl rfl)
  have ⟨m1, hm1⟩ := h1
  obtain ⟨ws, lws, hws, qws⟩ := open_pairs Try.underlying27 Try.underlying35 (by kernel_rfl) rfl rfl (by kernel_rfl) (by kernel_rfl) Try.underlying3 Try.underlying3 hm1
  have zws : ws.length ≤ 140737488351232 := by rw [lws]; exact sized_len hsz (j := 1) (t := 27) (e := 35) rfl rfl Try.underlying27 (of_decide_eq_true (by kernel_rfl))
  clear hA0 hval0
  refine (walk l _ ws _ zl W hl hws).mono fun e W' ⟨he, bel⟩ => ?_
  subst he
  exact ⟨_, rfl, _, _, _, [], _, [], hW', trodAll_mk1 (shut_bool Try.underlying4 _), (trodAll_cons_mk (Below.trod laidOut (by kernel_rfl) (of_decide_eq_true (by kernel_rfl)) k0 bel lt0) (trodAll_cons_mk (Below.trod laidOut (by kernel_rfl) (of_decide_eq_true (by kernel_rfl)) k1 bel lt1) trodAll_mk0)), rfl, bel.frame _, fun h => by cases h⟩

theorem over : Rows.binReadsRow.holds Try.pinned (OpenSpec.ofChange Rows.binReadsSpec) :=
  OpenClaim.holds_of_wide 4 Try.f4 rfl rfl rfl rfl rfl rfl rfl ⟨rfl, rfl, rfl, rfl, rfl⟩ rfl rfl rfl rfl rfl (by kernel_rfl) Try.func4 (by kernel_rfl)
    (of_decide_eq_true (by kernel_rfl)) (by unfold Func.isWrapper; first | (rw [if_pos (by decide +kernel)]; kernel_rfl) | (rw [if_neg (by decide +kernel)]; exact ⟨rfl, rfl⟩))
    (fun os started H enc _ => lifted os started H enc)

theorem binReads_holds : Rows.BinReadsSaid := over
end Go.Proofs.Ytjkkolhboohmgaa.binReads
