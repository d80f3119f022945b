/-
  Layer 17 (expr), 17.3, 17.4: for every two lists of words, and bytes: an expression's bytes are those that the document says, and none else has them; bytes are read as it, and what stands behind them is left. No condition.
-/
import Derived.Test.YtopgapbipmblbaaExpL
import Derived.Test.YtopgapbipmblbaaExpM
import Derived.Test.YtopgapbipmblbaaArgV
import Derived.Test.YtopgapbipmblbaaExpC
import Derived.Test.YtopgapbipmblbaaExpR
import Derived.Test.YtopgapbipmblbaaReg
import Derived.Test.YtopgapbipmblbaaReg2
import Derived.Test.YtopgapbipmblbaaReg3
import Derived.Test.YtopgapbipmblbaaArgV
import Derived.WalkKit
import Derived.ProofKit
import Derived.OpenShut
import Derived.ShutString
import Derived.ChangeOld
import Derived.Below
import Derived.Lib.SmallJoins
import Derived.SizedLaws
import Derived.Deep.CondSized
import Derived.JoinedCond
set_option linter.unusedVariables false
set_option linter.unusedSimpArgs false
namespace Go.Proofs.Ytopgapbipmblbaa.exprBytes
open Go.ChangeShapes Go.WideShapes Go.ChangeAt Go.RowKit Go.Joins
open Go.ChangeMaps (open_string shut_string)
attribute [local go_sem] GW.cell GW.frozen In.eq_true In.le_true In.ne In.ne' In.ne_add In.ne_add' In.lt_add Upto.le_true Upto.le_add Upto.lt_add

theorem guard_bool {P : Program} {op : BinOp} {t : TypeId} {x y : Operand} {s s' : Bool} (w : World) : (eqGuard op t x y (.bool s) (.bool s')).run P w = .ok () w := by
  cases op <;> rfl
theorem run_neq_boolS {P : Program} {t : TypeId} (ht : P.underlying t = some .bool) (s : Bool) (w : World) : (binOp .neq t (.bool s) (.bool s)).run P w = .ok (.bool false) w := by
  rw [Go.run_neq_bool w t s s ht]; simp
theorem argB_none {o : Vl} (h : okW o = true) (ht : 1 ≤ tkI o.1) : argB o = [] := by
  have hc : ¬ (1 ≤ o.1 ∧ o.1 ≤ 3) := fun hh => by rw [tkI_iff0.2 hh] at ht; omega
  have := ok_code h
  unfold argB
  rw [if_neg (by omega), if_neg (by omega), if_neg (by omega)]
theorem wordsB_app (l m : List Vl) : wordsB (l ++ m) = wordsB l ++ wordsB m := by simp [wordsB]
theorem wordsB_one (o : Vl) : (wordsB [o]).length = 1 + (argB o).length := by simp [wordsB, wordB]; omega
theorem words_len : ∀ t : Tr, t.good → (∀ o ∈ t.flat, inW o) → 2 * (wordsB t.flat).length ≤ 77 * t.flat.length + 75
  | .leaf o, g, hi => by
    have h1 := argB_len (Tr.top_ok (.leaf o) g) (hi o (by simp [Tr.flat]))
    have e : (Tr.leaf o).flat = [o] := rfl
    rw [e, wordsB_one]
    simp only [Tr.top, List.length_singleton] at *
    omega
  | .one o a, g, hi => by
    have g2 := Tr.kids_len (.one o a) g
    have g3 := Tr.top_ok (.one o a) g
    simp only [Tr.top, Tr.kids, List.length_cons, List.length_nil] at g2 g3
    have e : (Tr.one o a).flat = a.flat ++ [o] := rfl
    have := words_len a (Tr.kids_good (.one o a) g a (by simp [Tr.kids])) (fun x hx => hi x (by rw [e]; exact List.mem_append_left _ hx))
    rw [e, wordsB_app, List.length_append, List.length_append, wordsB_one, argB_none g3 (by omega), List.length_nil, List.length_singleton]
    omega
  | .two o a c, g, hi => by
    have g2 := Tr.kids_len (.two o a c) g
    have g3 := Tr.top_ok (.two o a c) g
    simp only [Tr.top, Tr.kids, List.length_cons, List.length_nil] at g2 g3
    have e : (Tr.two o a c).flat = (a.flat ++ c.flat) ++ [o] := by simp [Tr.flat]
    have h1 := words_len a (Tr.kids_good (.two o a c) g a (by simp [Tr.kids])) (fun x hx => hi x (by rw [e]; simp [hx]))
    have h2 := words_len c (Tr.kids_good (.two o a c) g c (by simp [Tr.kids])) (fun x hx => hi x (by rw [e]; simp [hx]))
    rw [e, wordsB_app, wordsB_app, List.length_append, List.length_append, List.length_append, List.length_append, wordsB_one, argB_none g3 (by omega), List.length_nil, List.length_singleton]
    omega
theorem exprB_len (l : List Vl) (hi : ∀ o ∈ l, inW o) : (exprB l).length ≤ 4096 := by
  unfold exprB
  split
  · rename_i hz
    obtain ⟨t, g, rfl, h64⟩ := formE_tree hz
    have := words_len t g hi
    rw [List.length_cons]; omega
  · simp
set_option maxHeartbeats 8000000 in
set_option maxRecDepth 100000 in
theorem walk (l m : List Vl) (r : List UInt8) (hi : ∀ o ∈ l, inW o) (vl vm va : Value) (w : World) (h : Rw w [] vl l) (hm : Rw w [] vm m) (hr : r.length ≤ 140737488351232) (hv : By w [] va r) : Calls Try.prog 3 #[vl, vm, va] w fun e w' => e = .returned (.bool true) ∧ Ext w w' := by
  have hwb := hide (exprBytes_c l hi vl w h)
  have hrb := hide (fun w' (hX : Ext w w') => refExprBytes_c l hi vl w' (Sl.ext h hX))
  have hsm := hide (fun w' (hX : Ext w w') => exprSame_c (Sl.ext h hX) (Sl.ext hm hX))
  have hsr := hide (fun w' (hX : Ext w w') => refExprSame_c (Sl.ext h hX) (Sl.ext hm hX))
  have hfo := hide (fun w' (hX : Ext w w') => form_c l vl w' (Sl.ext h hX))
  have hl' := hide h
  have hBl := exprB_len l hi
  have hrd0 := hide (fun (hz : formE l = 0) (S : List Nat) (b : Nat) (w' : World) hR => exprRead_c l hi hz S b r w' hR)
  obtain ⟨A, cap, rfl, hlc, hcm, -⟩ := id hv
  unfold maxLen at hcm
  replace hv := hide hv
  obtain ⟨Av, capv, rfl, -, -, -⟩ := rw_form h
  obtain ⟨Am, capm, rfl, -, -, -⟩ := rw_form hm
  clear h hm hi
  by_cases hz : formE l = 0
  · have hBe : Hid (exprB l = UInt8.ofNat l.length :: wordsB l) := by show _ = _; unfold exprB; rw [if_pos hz]
    rw [hz] at hfo
    have hrd : Hid (∀ (S : List Nat) (b : Nat) (w' : World), Rdr w' S b (exprB l ++ r, 0) → Calls Try.prog 14 #[.pointer (some ⟨b, 0, none⟩)] w' fun z w'' => ∃ v', z = .returned (.tuple #[v', .int .i64 0]) ∧ OwnX w'' w'.heap.size v' l ∧ Rdr w'' S b (r, 0) ∧ Fr [b] w' w'') := hide (fun S b w' hR => hrd0.out hz S b w' (by rw [hBe.out] at hR; exact hR))
    clear hrd0 hBe hz
    generalize exprB l = B at *
    go_enter Try.func3, Try.ntmps3
    go_wp2_with (go_at_call 7; refine hwb.out.mono ?_; rintro ee w1 ⟨v1, rfl, ho1, hx1⟩; obtain ⟨g1, rfl⟩ : ∃ g1 : GW w, w1 = g1.val := ⟨⟨_, hx1⟩, rfl⟩; obtain ⟨A1, c1, rfl⟩ := own_form ho1)
    have hst : ∀ w', Ext g1.val w' → (convert 24 9 (.slice A1 B.length c1)).run Try.prog w' = .ok (.string ⟨B.toArray⟩) w' := fun w' hx => run_str Try.underlying24 Try.underlying5 Try.underlying9 (Sl.ext (Sl.own (S := []) ho1 (by simp)) hx)
    refine wp_region_list [.is (.slice A1 B.length c1), .is (.string ⟨B.toArray⟩), .is (.slice Av l.length capv), .bytes B, .is (.string ⟨B.toArray⟩), .is (.bool false), .is (.bool false), .is (.slice Av l.length capv), .is (.slice Am m.length capm), .is (.bool (decide (l = m))), .is (.slice Av l.length capv), .is (.slice Am m.length capm), .is (.bool (decide (l = m))), .is (.bool false), .is (.bool false)] (by kernel_rfl) (by kernel_rfl) (by kernel_rfl) ?_ ?_
    · refine ⟨?_, ?_, ?_, ?_, ?_, ?_, ?_, ?_, ?_, ?_, ?_, ?_, ?_, ?_, ?_, trivial⟩
      · intro b w' h
        have fa : b.tmps.getD 7 undef = (.slice A1 B.length c1) := h.else_ 7 (of_decide_eq_true (by kernel_rfl))
        exact good_move (wanted_none rfl) rfl fa
      · intro b w' h
        have f13 : b.tmps.getD 13 undef = .slice A1 B.length c1 := h.dep 0 _ 13 (by kernel_rfl) rfl rfl
        exact good_convert (wanted_none rfl) rfl (by rw [show b.eval (.tmp 13) = .slice A1 B.length c1 from f13]; exact hst _ h.ext) rfl
      · intro b w' h
        have fa : b.tmps.getD 0 undef = (.slice Av l.length capv) := h.else_ 0 (of_decide_eq_true (by kernel_rfl))
        exact good_move (wanted_none rfl) rfl fa
      · intro b w' h
        have f15 : b.tmps.getD 15 undef = (.slice Av l.length capv) := h.dep 2 _ 15 (by kernel_rfl) rfl rfl
        refine good_call (wanted_none rfl) rfl (enters Try.func8 (by kernel_rfl) rfl) ?_
        rw [show (#[.tmp 15] : Array Operand).map b.eval = #[(.slice Av l.length capv)] by simp [Act.eval, f15]]
        exact (hrb.out _ (g1.grown.trans h.ext)).mono fun e w1 ⟨v, he, ho, hx⟩ => ⟨v, he, Sl.own ho (by simp), hx⟩
      · intro b w' h
        have f16 := h.dep 3 _ 16 (by kernel_rfl) rfl rfl
        exact good_convert (wanted_none rfl) rfl (run_str Try.underlying24 Try.underlying5 Try.underlying9 f16) rfl
      · intro b w' h
        have f14 : b.tmps.getD 14 undef = .string ⟨B.toArray⟩ := h.dep 1 _ 14 (by kernel_rfl) rfl rfl
        have f17 : b.tmps.getD 17 undef = .string ⟨B.toArray⟩ := h.dep 4 _ 17 (by kernel_rfl) rfl rfl
        exact good_bin (wanted_none rfl) rfl f14 f17 (guard_str _) (run_neq_str Try.underlying9 _ _) rfl
      · intro b w' h
        have f18 : b.tmps.getD 18 undef = .bool false := h.dep 5 _ 18 (by kernel_rfl) rfl rfl
        exact good_move (wanted_none rfl) rfl f18
      · intro b w' h
        have f19 : b.tmps.getD 19 undef = .bool false := h.dep 6 _ 19 (by kernel_rfl) rfl rfl
        have fa : b.tmps.getD 0 undef = (.slice Av l.length capv) := h.else_ 0 (of_decide_eq_true (by kernel_rfl))
        exact good_move (wanted_yes rfl rfl f19) rfl fa
      · intro b w' h
        have f19 : b.tmps.getD 19 undef = .bool false := h.dep 6 _ 19 (by kernel_rfl) rfl rfl
        have fa : b.tmps.getD 1 undef = (.slice Am m.length capm) := h.else_ 1 (of_decide_eq_true (by kernel_rfl))
        exact good_move (wanted_yes rfl rfl f19) rfl fa
      · intro b w' h
        have f19 : b.tmps.getD 19 undef = .bool false := h.dep 6 _ 19 (by kernel_rfl) rfl rfl
        have fa : b.tmps.getD 20 undef = (.slice Av l.length capv) := h.dep 7 _ 20 (by kernel_rfl) rfl rfl
        have fb : b.tmps.getD 21 undef = (.slice Am m.length capm) := h.dep 8 _ 21 (by kernel_rfl) rfl rfl
        refine good_call (wanted_yes rfl rfl f19) rfl (enters Try.func9 (by kernel_rfl) rfl) ?_
        rw [show (#[.tmp 20, .tmp 21] : Array Operand).map b.eval = #[(.slice Av l.length capv), (.slice Am m.length capm)] by simp [Act.eval, fa, fb]]
        exact (hsm.out _ (g1.grown.trans h.ext)).mono fun e w1 ⟨he, hx⟩ => ⟨_, he, rfl, hx⟩
      · intro b w' h
        have f19 : b.tmps.getD 19 undef = .bool false := h.dep 6 _ 19 (by kernel_rfl) rfl rfl
        have fa : b.tmps.getD 0 undef = (.slice Av l.length capv) := h.else_ 0 (of_decide_eq_true (by kernel_rfl))
        exact good_move (wanted_yes rfl rfl f19) rfl fa
      · intro b w' h
        have f19 : b.tmps.getD 19 undef = .bool false := h.dep 6 _ 19 (by kernel_rfl) rfl rfl
        have fa : b.tmps.getD 1 undef = (.slice Am m.length capm) := h.else_ 1 (of_decide_eq_true (by kernel_rfl))
        exact good_move (wanted_yes rfl rfl f19) rfl fa
      · intro b w' h
        have f19 : b.tmps.getD 19 undef = .bool false := h.dep 6 _ 19 (by kernel_rfl) rfl rfl
        have fa : b.tmps.getD 23 undef = (.slice Av l.length capv) := h.dep 10 _ 23 (by kernel_rfl) rfl rfl
        have fb : b.tmps.getD 24 undef = (.slice Am m.length capm) := h.dep 11 _ 24 (by kernel_rfl) rfl rfl
        refine good_call (wanted_yes rfl rfl f19) rfl (enters Try.func10 (by kernel_rfl) rfl) ?_
        rw [show (#[.tmp 23, .tmp 24] : Array Operand).map b.eval = #[(.slice Av l.length capv), (.slice Am m.length capm)] by simp [Act.eval, fa, fb]]
        exact (hsr.out _ (g1.grown.trans h.ext)).mono fun e w1 ⟨he, hx⟩ => ⟨_, he, rfl, hx⟩
      · intro b w' h
        have f19 : b.tmps.getD 19 undef = .bool false := h.dep 6 _ 19 (by kernel_rfl) rfl rfl
        have f22 : b.tmps.getD 22 undef = .bool (decide (l = m)) := h.dep 9 _ 22 (by kernel_rfl) rfl rfl
        have f25 : b.tmps.getD 25 undef = .bool (decide (l = m)) := h.dep 12 _ 25 (by kernel_rfl) rfl rfl
        exact good_bin (wanted_yes rfl rfl f19) rfl f22 f25 (guard_bool _) (run_neq_boolS Try.underlying4 _ _) rfl
      · intro b w' h
        have f19 : b.tmps.getD 19 undef = .bool false := h.dep 6 _ 19 (by kernel_rfl) rfl rfl
        have f26 : b.tmps.getD 26 undef = .bool false := h.dep 13 _ 26 (by kernel_rfl) rfl rfl
        exact good_pickF (wanted_none rfl) rfl f19 f26
    · intro b w2 hX2 hd hz he' hf
      have f27 : b.tmps.getD 27 undef = .bool false := hf 14 _ 27 rfl rfl
      have e := frame_puts hd hz he'
      obtain ⟨x, hx⟩ : ∃ x : Nat → Value, ∀ d, b.tmps.getD d undef = x d := ⟨_, fun _ => rfl⟩
      rw [show dstsOf _ = [13, 14, 15, 16, 17, 18, 19, 20, 21, 22, 23, 24, 25, 26, 27] from rfl] at e
      simp only [List.foldl_cons, List.foldl_nil, hx, Act.put, List.setIfInBounds_toArray, List.set_cons_succ, List.set_cons_zero] at e f27
      rw [f27] at e
      clear hf he' hz hd hx f27
      subst e
      obtain ⟨g2, rfl⟩ : ∃ g2 : GW g1.val, w2 = g2.val := ⟨⟨_, hX2⟩, rfl⟩
      have hG2 := hide (g1.grown.trans g2.grown)
      go_wp2_with (first | (go_at_call 11; with_reducible refine seq_gw' (hfo.out _ hG2.out) ?_; intro g3; have hlit := hide (World.ownsRow_made (base := g3.val.heap.size) (e := 5) (size := 1) g3.val #[] 0 (Nat.le_refl _) (Nat.zero_le _) rfl); have hB3 := hide (Sl.ext (Sl.own (S := []) ho1 (by simp)) (g3.grown.alloc (.cells #[] 5))); have hG3 := hide (g1.grown.trans g3.grown)) | (at_builtin; (refine wpl_app tBytes rfl (.tmp 37) (.tmp 38) rfl rfl hlit.out rfl (src_sl Try.underlying24 hB3.out (bs_one _) (by omega)) (by unfold maxLen; omega) (by omega) (by simp) ?_; intro v4 w4 ho4 hg4 _; replace ho4 := own_app (l := []) ho4; rw [List.nil_append] at ho4; have hX4 := hide (ext_grown ((Ext.refl g3.val).alloc _) hg4 (fun k hk => (hlit.out.lt k hk).1)); have hz4 := hX4.out.size; have hv4 := hide (Sl.ext hv.out (hG3.out.trans hX4.out)))) | (at_builtin; (refine wpl_app tBytes rfl (.tmp 39) (.tmp 40) rfl rfl ho4 rfl (src_sl Try.underlying24 hv4.out (bs_one _) (by omega)) (by unfold maxLen; omega) (by omega) hz4 ?_; intro v5 w5 ho5 hg5 _; replace ho5 := own_app ho5; have hX5 := hide (ext_grown hX4.out hg5 (fun k hk => (ho4.lt k hk).1)))) | (go_at_call 13; (refine (newReader_c' [] _ (B ++ r) (by rw [List.length_append]; omega) _ (Sl.own (S := []) ho5 (by simp)) (by simp)).mono ?_; rintro ee w6 ⟨b, rfl, hb, hR6, hX6⟩; have hG6 := hide ((hG3.out.trans hX5.out).trans hX6))) | (go_at_call 14; (refine (hrd.out _ b _ hR6).mono ?_; rintro ee w7 ⟨v7, rfl, o7, hR7, hF7⟩; obtain ⟨A7, c7, rfl⟩ := own_form o7; have a2 := g1.grown.size; have a3 := g3.grown.size; have a4 := hX5.out.size; have hG7 := hide (ext_fr hG6.out hF7 (by intro y hy; simp at hy; subst hy; omega)); have s7 := hide (own_xw (S := []) o7 (by simp)); have sm := hide (Sl.ext hl'.out hG7.out); clear o7; replace hR7 := hide hR7)) | (go_at_call 12; ((with_reducible refine seq_gw (expLive_c _) ?_); intro g8)) | (go_at_call 10; ((with_reducible refine seq_gw' (refExprSame_c (Sl.ext s7.out g8.grown) (Sl.ext sm.out g8.grown)) ?_); rw [decide_eq_true (rfl : l = l)]; intro g9)) | (go_at_call 15; (refine (left_c _ b _ _ _ (rdr_ext hR7.out g9.grown)).mono ?_; rintro ee w9 ⟨rfl, rfl⟩)))
      go_returns
      exact ⟨by first | rfl | simp, hG7.out.trans g9.grown⟩
  · have hB0 : exprB l = [] := by unfold exprB; rw [if_neg hz]
    have hzI : (formE l != 0) = true := by simpa using hz
    have hBz : ((exprB l).length : Int) = 0 := by rw [hB0]; rfl
    clear hrd0 hz hB0 hBl
    generalize exprB l = B at *
    generalize formE l = E at *
    go_enter Try.func3, Try.ntmps3
    go_wp2_with (go_at_call 7; refine hwb.out.mono ?_; rintro ee w1 ⟨v1, rfl, ho1, hx1⟩; obtain ⟨g1, rfl⟩ : ∃ g1 : GW w, w1 = g1.val := ⟨⟨_, hx1⟩, rfl⟩; obtain ⟨A1, c1, rfl⟩ := own_form ho1)
    have hst : ∀ w', Ext g1.val w' → (convert 24 9 (.slice A1 B.length c1)).run Try.prog w' = .ok (.string ⟨B.toArray⟩) w' := fun w' hx => run_str Try.underlying24 Try.underlying5 Try.underlying9 (Sl.ext (Sl.own (S := []) ho1 (by simp)) hx)
    refine wp_region_list [.is (.slice A1 B.length c1), .is (.string ⟨B.toArray⟩), .is (.slice Av l.length capv), .bytes B, .is (.string ⟨B.toArray⟩), .is (.bool false), .is (.bool false), .is (.slice Av l.length capv), .is (.slice Am m.length capm), .is (.bool (decide (l = m))), .is (.slice Av l.length capv), .is (.slice Am m.length capm), .is (.bool (decide (l = m))), .is (.bool false), .is (.bool false)] (by kernel_rfl) (by kernel_rfl) (by kernel_rfl) ?_ ?_
    · refine ⟨?_, ?_, ?_, ?_, ?_, ?_, ?_, ?_, ?_, ?_, ?_, ?_, ?_, ?_, ?_, trivial⟩
      · intro b w' h
        have fa : b.tmps.getD 7 undef = (.slice A1 B.length c1) := h.else_ 7 (of_decide_eq_true (by kernel_rfl))
        exact good_move (wanted_none rfl) rfl fa
      · intro b w' h
        have f13 : b.tmps.getD 13 undef = .slice A1 B.length c1 := h.dep 0 _ 13 (by kernel_rfl) rfl rfl
        exact good_convert (wanted_none rfl) rfl (by rw [show b.eval (.tmp 13) = .slice A1 B.length c1 from f13]; exact hst _ h.ext) rfl
      · intro b w' h
        have fa : b.tmps.getD 0 undef = (.slice Av l.length capv) := h.else_ 0 (of_decide_eq_true (by kernel_rfl))
        exact good_move (wanted_none rfl) rfl fa
      · intro b w' h
        have f15 : b.tmps.getD 15 undef = (.slice Av l.length capv) := h.dep 2 _ 15 (by kernel_rfl) rfl rfl
        refine good_call (wanted_none rfl) rfl (enters Try.func8 (by kernel_rfl) rfl) ?_
        rw [show (#[.tmp 15] : Array Operand).map b.eval = #[(.slice Av l.length capv)] by simp [Act.eval, f15]]
        exact (hrb.out _ (g1.grown.trans h.ext)).mono fun e w1 ⟨v, he, ho, hx⟩ => ⟨v, he, Sl.own ho (by simp), hx⟩
      · intro b w' h
        have f16 := h.dep 3 _ 16 (by kernel_rfl) rfl rfl
        exact good_convert (wanted_none rfl) rfl (run_str Try.underlying24 Try.underlying5 Try.underlying9 f16) rfl
      · intro b w' h
        have f14 : b.tmps.getD 14 undef = .string ⟨B.toArray⟩ := h.dep 1 _ 14 (by kernel_rfl) rfl rfl
        have f17 : b.tmps.getD 17 undef = .string ⟨B.toArray⟩ := h.dep 4 _ 17 (by kernel_rfl) rfl rfl
        exact good_bin (wanted_none rfl) rfl f14 f17 (guard_str _) (run_neq_str Try.underlying9 _ _) rfl
      · intro b w' h
        have f18 : b.tmps.getD 18 undef = .bool false := h.dep 5 _ 18 (by kernel_rfl) rfl rfl
        exact good_move (wanted_none rfl) rfl f18
      · intro b w' h
        have f19 : b.tmps.getD 19 undef = .bool false := h.dep 6 _ 19 (by kernel_rfl) rfl rfl
        have fa : b.tmps.getD 0 undef = (.slice Av l.length capv) := h.else_ 0 (of_decide_eq_true (by kernel_rfl))
        exact good_move (wanted_yes rfl rfl f19) rfl fa
      · intro b w' h
        have f19 : b.tmps.getD 19 undef = .bool false := h.dep 6 _ 19 (by kernel_rfl) rfl rfl
        have fa : b.tmps.getD 1 undef = (.slice Am m.length capm) := h.else_ 1 (of_decide_eq_true (by kernel_rfl))
        exact good_move (wanted_yes rfl rfl f19) rfl fa
      · intro b w' h
        have f19 : b.tmps.getD 19 undef = .bool false := h.dep 6 _ 19 (by kernel_rfl) rfl rfl
        have fa : b.tmps.getD 20 undef = (.slice Av l.length capv) := h.dep 7 _ 20 (by kernel_rfl) rfl rfl
        have fb : b.tmps.getD 21 undef = (.slice Am m.length capm) := h.dep 8 _ 21 (by kernel_rfl) rfl rfl
        refine good_call (wanted_yes rfl rfl f19) rfl (enters Try.func9 (by kernel_rfl) rfl) ?_
        rw [show (#[.tmp 20, .tmp 21] : Array Operand).map b.eval = #[(.slice Av l.length capv), (.slice Am m.length capm)] by simp [Act.eval, fa, fb]]
        exact (hsm.out _ (g1.grown.trans h.ext)).mono fun e w1 ⟨he, hx⟩ => ⟨_, he, rfl, hx⟩
      · intro b w' h
        have f19 : b.tmps.getD 19 undef = .bool false := h.dep 6 _ 19 (by kernel_rfl) rfl rfl
        have fa : b.tmps.getD 0 undef = (.slice Av l.length capv) := h.else_ 0 (of_decide_eq_true (by kernel_rfl))
        exact good_move (wanted_yes rfl rfl f19) rfl fa
      · intro b w' h
        have f19 : b.tmps.getD 19 undef = .bool false := h.dep 6 _ 19 (by kernel_rfl) rfl rfl
        have fa : b.tmps.getD 1 undef = (.slice Am m.length capm) := h.else_ 1 (of_decide_eq_true (by kernel_rfl))
        exact good_move (wanted_yes rfl rfl f19) rfl fa
      · intro b w' h
        have f19 : b.tmps.getD 19 undef = .bool false := h.dep 6 _ 19 (by kernel_rfl) rfl rfl
        have fa : b.tmps.getD 23 undef = (.slice Av l.length capv) := h.dep 10 _ 23 (by kernel_rfl) rfl rfl
        have fb : b.tmps.getD 24 undef = (.slice Am m.length capm) := h.dep 11 _ 24 (by kernel_rfl) rfl rfl
        refine good_call (wanted_yes rfl rfl f19) rfl (enters Try.func10 (by kernel_rfl) rfl) ?_
        rw [show (#[.tmp 23, .tmp 24] : Array Operand).map b.eval = #[(.slice Av l.length capv), (.slice Am m.length capm)] by simp [Act.eval, fa, fb]]
        exact (hsr.out _ (g1.grown.trans h.ext)).mono fun e w1 ⟨he, hx⟩ => ⟨_, he, rfl, hx⟩
      · intro b w' h
        have f19 : b.tmps.getD 19 undef = .bool false := h.dep 6 _ 19 (by kernel_rfl) rfl rfl
        have f22 : b.tmps.getD 22 undef = .bool (decide (l = m)) := h.dep 9 _ 22 (by kernel_rfl) rfl rfl
        have f25 : b.tmps.getD 25 undef = .bool (decide (l = m)) := h.dep 12 _ 25 (by kernel_rfl) rfl rfl
        exact good_bin (wanted_yes rfl rfl f19) rfl f22 f25 (guard_bool _) (run_neq_boolS Try.underlying4 _ _) rfl
      · intro b w' h
        have f19 : b.tmps.getD 19 undef = .bool false := h.dep 6 _ 19 (by kernel_rfl) rfl rfl
        have f26 : b.tmps.getD 26 undef = .bool false := h.dep 13 _ 26 (by kernel_rfl) rfl rfl
        exact good_pickF (wanted_none rfl) rfl f19 f26
    · intro b w2 hX2 hd hz he' hf
      have f27 : b.tmps.getD 27 undef = .bool false := hf 14 _ 27 rfl rfl
      have e := frame_puts hd hz he'
      obtain ⟨x, hx⟩ : ∃ x : Nat → Value, ∀ d, b.tmps.getD d undef = x d := ⟨_, fun _ => rfl⟩
      rw [show dstsOf _ = [13, 14, 15, 16, 17, 18, 19, 20, 21, 22, 23, 24, 25, 26, 27] from rfl] at e
      simp only [List.foldl_cons, List.foldl_nil, hx, Act.put, List.setIfInBounds_toArray, List.set_cons_succ, List.set_cons_zero] at e f27
      rw [f27] at e
      clear hf he' hz hd hx f27
      subst e
      obtain ⟨g2, rfl⟩ : ∃ g2 : GW g1.val, w2 = g2.val := ⟨⟨_, hX2⟩, rfl⟩
      have hG2 := hide (g1.grown.trans g2.grown)
      go_wp2_with (first | (go_at_call 11; with_reducible refine seq_gw' (hfo.out _ hG2.out) ?_; intro g3) | (go_at_call 12; first | (with_reducible refine seq_gw' (expLive_c _) ?_; intro g4) | (with_reducible refine seq_gw (expLive_c _) ?_; intro g4)))
      go_returns
      exact ⟨by first | rfl | simp | simp [hBz], (g1.grown.trans g4.grown)⟩

theorem own : ownKnob Try.prog.godebug = none := by kernel_rfl
theorem laidOut : laidOutB Try.prog = true := by kernel_rfl
set_option maxRecDepth 100000 in
theorem lifted (os : Os) (started : os.Started) (H : Type) (enc : TypeId × Value → H) :
    ReturnsInHanded {} Try.checked os 3 .any (Rows.exprBytesSpec.pre6 enc Try.prog Try.f3 Rows.exprBytesRow.domain false) (Rows.exprBytesSpec.post enc Try.prog Try.f3 false true false false) := by
  refine returnsInHanded_of_change_sized (C := Try.checked) own started (by kernel_rfl) Try.func3
    (ChangeSpec.witness6 (enc := enc) (C := Try.checked) false ⟨#[], #[.slice none 0 0, .slice none 0 0, .slice none 0 0], []⟩ 8 (by kernel_rfl) (by kernel_rfl) (by kernel_rfl) (by kernel_rfl)) ?_
  intro W base args ds gs before hval0 hW hcnd hsz0 _
  have hsz : (DataW.weightsEach Try.prog (Try.f3.params.toList ++ Rows.exprBytesSpec.plain.varTypes Try.prog) (ds ++ gs)).all (· ≤ reachBytes) = true := hsz0
  clear hsz0
  have hval : ∀ (j : Nat) t v, Try.f3.params[j]? = some t → args[j]? = some v → Value.okWide Try.prog W .any base t v := hval0
  have hW' := hW
  obtain ⟨p, q, hA0, hV, rfl, hfz, hnd⟩ := hW
  have hA : DataW.TrodAll enc Try.prog W 0 (fun _ => true) true Try.f3.params.toList args.toList ds p := hA0
  rw [Try.params3] at hA hval hsz
  obtain ⟨v0, vs0, d0, ds0, p0, q0, hargs, rfl, rfl, h0, r0⟩ := trodAll_cons hA
  obtain ⟨v1, vs1, d1, ds1, p1, q1, rfl, rfl, rfl, h1, r1⟩ := trodAll_cons r0
  obtain ⟨v2, vs2, d2, ds2, p2, q2, rfl, rfl, rfl, h2, r2⟩ := trodAll_cons r1
  obtain ⟨rfl, rfl, rfl⟩ := trodAll_nil r2
  obtain rfl : args = #[v0, v1, v2] := by cases args; simp_all
  obtain ⟨rfl, rfl⟩ := trodVars_none hV
  have k0 := h0
  have lt0 : ∀ x ∈ p0, x.block < W.heap.size := by obtain ⟨m, hm⟩ := k0; exact DataW.trod_lt m _ _ _ hm
  obtain ⟨A0, n0, c0, rfl⟩ := okWide_slice Try.underlying23 (hval 0 23 v0 rfl rfl)
  have ⟨m0, hm0⟩ := h0
  obtain ⟨l, ll, hl, ql⟩ := open_row Try.underlying23 Try.underlying57 (by kernel_rfl) rfl rfl rfl (by kernel_rfl) (by kernel_rfl) (by kernel_rfl) Try.underlying55 Try.underlying3 Try.underlying9 hm0
  have zl : l.length * 32 ≤ 140737488351232 := by rw [ll]; exact sized_elems hsz (j := 0) (t := 23) (e := 57) rfl rfl Try.underlying23 (by kernel_rfl)
  have k1 := h1
  have lt1 : ∀ x ∈ p1, x.block < W.heap.size := by obtain ⟨m, hm⟩ := k1; exact DataW.trod_lt m _ _ _ hm
  obtain ⟨A1, n1, c1, rfl⟩ := okWide_slice Try.underlying23 (hval 1 23 v1 rfl rfl)
  have ⟨m1, hm1⟩ := h1
  obtain ⟨m, lm, hm, qm⟩ := open_row Try.underlying23 Try.underlying57 (by kernel_rfl) rfl rfl rfl (by kernel_rfl) (by kernel_rfl) (by kernel_rfl) Try.underlying55 Try.underlying3 Try.underlying9 hm1
  have zm : m.length * 32 ≤ 140737488351232 := by rw [lm]; exact sized_elems hsz (j := 1) (t := 23) (e := 57) rfl rfl Try.underlying23 (by kernel_rfl)
  have k2 := h2
  have lt2 : ∀ x ∈ p2, x.block < W.heap.size := by obtain ⟨m, hm⟩ := k2; exact DataW.trod_lt m _ _ _ hm
  obtain ⟨A2, n2, c2, rfl⟩ := okWide_slice Try.underlying24 (hval 2 24 v2 rfl rfl)
  have ⟨m2, hm2⟩ := h2
  obtain ⟨r, lr, hr⟩ := open_bytes Try.underlying24 Try.underlying5 (by kernel_rfl) hm2
  have zr : r.length ≤ 140737488351232 := by rw [lr]; exact sized_len hsz (j := 2) (t := 24) (e := 5) rfl rfl Try.underlying24 (of_decide_eq_true (by kernel_rfl))
  clear hA0 hval0
  refine (walk l m r ql _ _ _ W hl hm zr hr).mono fun e W' ⟨he, bel⟩ => ?_
  subst he
  exact ⟨_, rfl, _, _, _, [], _, [], hW', trodAll_mk1 (shut_bool Try.underlying4 _), (trodAll_cons_mk (Below.trod laidOut (by kernel_rfl) (of_decide_eq_true (by kernel_rfl)) k0 bel lt0) (trodAll_cons_mk (Below.trod laidOut (by kernel_rfl) (of_decide_eq_true (by kernel_rfl)) k1 bel lt1) (trodAll_cons_mk (Below.trod laidOut (by kernel_rfl) (of_decide_eq_true (by kernel_rfl)) k2 bel lt2) trodAll_mk0))), rfl, bel.frame _, fun h => by cases h⟩

theorem over : Rows.exprBytesRow.holds Try.pinned (OpenSpec.ofChange Rows.exprBytesSpec) :=
  OpenClaim.holds_of_wide 3 Try.f3 rfl rfl rfl rfl rfl rfl rfl ⟨rfl, rfl, rfl, rfl, rfl⟩ rfl rfl rfl rfl rfl (by kernel_rfl) Try.func3 (by kernel_rfl)
    (of_decide_eq_true (by kernel_rfl)) (by unfold Func.isWrapper; first | (rw [if_pos (by decide +kernel)]; kernel_rfl) | (rw [if_neg (by decide +kernel)]; exact ⟨rfl, rfl⟩))
    (fun os started H enc _ => lifted os started H enc)

theorem exprBytes_holds : Rows.ExprBytesSaid := over
end Go.Proofs.Ytopgapbipmblbaa.exprBytes
