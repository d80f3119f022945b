/-
  Layer 8 (msg), 8.2, 8.3: for every message, and bytes behind it, its bytes and how it is written are those that the document says; its bytes are read as it, and what stands behind them is left. Tied to the tables of the library; no other condition.
-/
import Derived.Test.YthidjngipkelcaaDoorMsgL
import Derived.Test.YthidjngipkelcaaDoorMsgB
import Derived.Test.YthidjngipkelcaaDoorArgM
import Derived.Test.YthidjngipkelcaaDoorReg
import Derived.Test.YthidjngipkelcaaDoorReg2
import Derived.Test.YthidjngipkelcaaDoorReg3
import Derived.Test.YthidjngipkelcaaDoorArg
import Derived.Test.YthidjngipkelcaaDoorMsgZ
import Derived.WalkKit
import Derived.ProofKit
import Derived.OpenShut
import Derived.ShutString
import Derived.ChangeOld
import Derived.Below
import Derived.Lib.SmallJoins
import Derived.Test.YthidjngipkelcaaDoorTie
import Derived.Test.YthidjngipkelcaaDoorCards
import Derived.LaidMore
import Derived.Stop.Joined
import Derived.SevenTiedAt
import Derived.Lib.LaidTab
import Derived.Stop.LaidErr
set_option linter.unusedVariables false
set_option linter.unusedSimpArgs false
namespace Go.Proofs.YthidjngipkelcaaDoor.msgBytes
open Go.ChangeShapes Go.WideShapes Go.ChangeAt Go.RowKit Go.Joins
open Go.ChangeMaps (open_string shut_string)
attribute [local go_sem] GW.cell GW.frozen In.eq_true In.le_true In.ne In.ne' In.ne_add In.ne_add' In.lt_add Upto.le_true Upto.le_add Upto.lt_add
theorem same_self (k i f t : Int) (l : List Vl) : msame k i f t l k i f t l = true := by simp [msame]
theorem mB_len (k i f t : Int) (r : List Vl) (hn : ∀ x ∈ r, inI x.2.1) : (mB k i f t r).length ≤ 700 := by
  by_cases hm : mchk k i f t r = 0
  · have h4 := rowB_len hn
    unfold mB
    rw [if_pos hm]
    rcases chkK hm with rfl | rfl | rfl
    · obtain ⟨-, hi, hf, ht⟩ := chk1 hm
      have h1 := numB_len (n := i) (by omega)
      have h2 := numB_len (n := f) (by omega)
      have h3 := numB_len (n := t) (by omega)
      rw [if_pos rfl]
      simp only [List.length_append, List.length_cons, List.length_nil]
      omega
    · obtain ⟨hi, hf, ht, -⟩ := chk2 hm
      have h1 := numB_len (n := i) (by omega)
      have h3 := numB_len (n := t) (by omega)
      rw [if_neg (by decide), if_pos rfl]
      simp only [List.length_append, List.length_cons, List.length_nil]
      omega
    · obtain ⟨hi, hf, ht, -⟩ := chk3 hm
      have h2 := numB_len (n := f) (by omega)
      rw [if_neg (by decide), if_neg (by decide)]
      simp only [List.length_append, List.length_cons, List.length_nil]
      omega
  · rw [mB_bad hm]; simp
set_option maxHeartbeats 8000000 in
set_option maxRecDepth 100000 in
theorem walk (k i f t : Int) (r : List Vl) (u : Value) (l : List UInt8) (va : Value) (w : World) (hn : ∀ x ∈ r, inI x.2.1) (hr : Rw w [] u r) (hl : l.length ≤ 140737488351232) (hv : By w [] va l) (ht : Tab w) : Calls Tryd.prog 3 #[mg k i f t u, va] w fun e w' => e = .returned (.bool true) ∧ Ext w w' := by
  have hwb := hide (fun w' (hX : Ext w w') => msgBytes_c k i f t r hn u w' (Sl.ext hr hX))
  have hrb := hide (fun w' (hX : Ext w w') => refMsgBytes_c k i f t r hn u w' (Sl.ext hr hX))
  have hsw := hide (fun w' (hX : Ext w w') => msgShow_c k i f t r hn u w' (Sl.ext hr hX) (ht.ext hX))
  have hrs := hide (fun w' (hX : Ext w w') => refMsgShow_c k i f t r hn u w' (Sl.ext hr hX))
  have hck := hide (fun w' (hX : Ext w w') => check_c k i f t r u w' (Sl.ext hr hX))
  have hlv := hide (fun w h => msgLive_c w h)
  have htb := hide ht
  have hr' := hide hr
  have hBl := mB_len k i f t r hn
  obtain ⟨A, cap, rfl, hlc, hcm, -⟩ := id hv
  unfold maxLen at hcm
  replace hv := hide hv
  obtain ⟨Av, capv, rfl, -, -, -⟩ := rw_form hr
  clear hr ht
  by_cases hm : mchk k i f t r = 0
  · have hX0 := hide (show Ext w (w.alloc (.cells #[.int .i64 k, .int .i64 i, .int .i64 f, .int .i64 t, .slice Av r.length capv] 26)) from (Ext.refl w).alloc _)
    have O0 := hide (Ob.new w 26 [.int .i64 k, .int .i64 i, .int .i64 f, .int .i64 t, .slice Av r.length capv])
    rw [hm] at hck
    have hbk := msg_back hm hn l
    generalize mB k i f t r = B at hwb hrb hbk hBl
    generalize mT k i f t r = T at hsw hrs
    have hrd : Hid (∀ (S : List Nat) (b : Nat) (w' : World), Rdr w' S b (B ++ l, 0) → Calls Tryd.prog 12 #[.pointer (some ⟨b, 0, none⟩)] w' fun z w'' => ∃ v', z = .returned (.tuple #[mg k i f t v', .int .i64 0]) ∧ OwnR w'' w'.heap.size v' r ∧ Rdr w'' S b (l, 0) ∧ Fr [b] w' w'') := hide (by
      intro S b w' h
      have := mread_c S b (B ++ l) w' h
      unfold mrT at this
      rw [hbk.1, hbk.2.1, hbk.2.2.1, hbk.2.2.2] at this
      exact this.mono (by rintro z w'' ⟨v', st, e, o, hR, hs, hF⟩; obtain rfl := hs rfl; exact ⟨v', e, o, hR, hF⟩))
    clear hbk
    clear hm hn
    go_enter Tryd.func3, Tryd.ntmps3
    go_wp2_with (go_at_call 5; refine (hwb.out _ hX0.out).mono ?_; rintro ee w1 ⟨v1, rfl, ho1, hx1⟩; obtain ⟨g1, rfl⟩ : ∃ g1 : GW (w.alloc (.cells #[.int .i64 k, .int .i64 i, .int .i64 f, .int .i64 t, .slice Av r.length capv] 26)), w1 = g1.val := ⟨⟨_, hx1⟩, rfl⟩; obtain ⟨A1, c1, rfl⟩ := own_form ho1)
    have hst : ∀ w', Ext g1.val w' → (convert 27 9 (.slice A1 B.length c1)).run Tryd.prog w' = .ok (.string ⟨B.toArray⟩) w' := fun w' hx => run_str Tryd.underlying27 Tryd.underlying5 Tryd.underlying9 (Sl.ext (Sl.own (S := []) ho1 (by simp)) hx)
    refine wp_region_list [.is (.slice A1 B.length c1), .is (.string ⟨B.toArray⟩), .is (mg k i f t (.slice Av r.length capv)), .bytes B, .is (.string ⟨B.toArray⟩), .is (.bool false), .is (.bool false), .is (mg k i f t (.slice Av r.length capv)), .is (.string ⟨T.toArray⟩), .is (mg k i f t (.slice Av r.length capv)), .is (.string ⟨T.toArray⟩), .is (.bool false), .is (.bool false)] (by kernel_rfl) (by kernel_rfl) (by kernel_rfl) ?_ ?_
    · refine ⟨?_, ?_, ?_, ?_, ?_, ?_, ?_, ?_, ?_, ?_, ?_, ?_, ?_, trivial⟩
      · intro b w' h
        have f5 : b.tmps.getD 5 undef = .slice A1 B.length c1 := h.else_ 5 (of_decide_eq_true (by kernel_rfl))
        exact good_move (wanted_none rfl) rfl f5
      · intro b w' h
        have f11 : b.tmps.getD 11 undef = .slice A1 B.length c1 := h.dep 0 _ 11 (by kernel_rfl) rfl rfl
        exact good_convert (wanted_none rfl) rfl (by rw [show b.eval (.tmp 11) = .slice A1 B.length c1 from f11]; exact hst _ h.ext) rfl
      · intro b w' h
        have f2 : b.tmps.getD 2 undef = .pointer (some ⟨w.heap.size, 0, none⟩) := h.else_ 2 (of_decide_eq_true (by kernel_rfl))
        have O1 := (O0.out.ext g1.grown).ext h.ext
        have k0 := O1.cell 0 rfl
        have k1 := O1.cell 1 rfl
        have k2 := O1.cell 2 rfl
        have k3 := O1.cell 3 rfl
        have k4 := O1.cell 4 rfl
        exact good_load (wanted_none rfl) rfl f2 (by simp [go_sem, k0, k1, k2, k3, k4]) rfl
      · intro b w' h
        have f13 : b.tmps.getD 13 undef = mg k i f t (.slice Av r.length capv) := h.dep 2 _ 13 (by kernel_rfl) rfl rfl
        refine good_call (wanted_none rfl) rfl (enters Tryd.func6 (by kernel_rfl) rfl) ?_
        rw [show (#[.tmp 13] : Array Operand).map b.eval = #[mg k i f t (.slice Av r.length capv)] by simp [Act.eval, f13]]
        exact (hrb.out _ (hX0.out.trans (g1.grown.trans h.ext))).mono fun e w1 ⟨v, he, ho, hx⟩ => ⟨v, he, Sl.own ho (by simp), hx⟩
      · intro b w' h
        have f14 := h.dep 3 _ 14 (by kernel_rfl) rfl rfl
        exact good_convert (wanted_none rfl) rfl (run_str Tryd.underlying27 Tryd.underlying5 Tryd.underlying9 f14) rfl
      · intro b w' h
        have f12 : b.tmps.getD 12 undef = .string ⟨B.toArray⟩ := h.dep 1 _ 12 (by kernel_rfl) rfl rfl
        have f15 : b.tmps.getD 15 undef = .string ⟨B.toArray⟩ := h.dep 4 _ 15 (by kernel_rfl) rfl rfl
        exact good_bin (wanted_none rfl) rfl f12 f15 (guard_str _) (run_neq_str Tryd.underlying9 _ _) rfl
      · intro b w' h
        have f16 : b.tmps.getD 16 undef = .bool false := h.dep 5 _ 16 (by kernel_rfl) rfl rfl
        exact good_move (wanted_none rfl) rfl f16
      · intro b w' h
        have f17 : b.tmps.getD 17 undef = .bool false := h.dep 6 _ 17 (by kernel_rfl) rfl rfl
        have f2 : b.tmps.getD 2 undef = .pointer (some ⟨w.heap.size, 0, none⟩) := h.else_ 2 (of_decide_eq_true (by kernel_rfl))
        have O1 := (O0.out.ext g1.grown).ext h.ext
        have k0 := O1.cell 0 rfl
        have k1 := O1.cell 1 rfl
        have k2 := O1.cell 2 rfl
        have k3 := O1.cell 3 rfl
        have k4 := O1.cell 4 rfl
        exact good_load (wanted_yes rfl rfl f17) rfl f2 (by simp [go_sem, k0, k1, k2, k3, k4]) rfl
      · intro b w' h
        have f17 : b.tmps.getD 17 undef = .bool false := h.dep 6 _ 17 (by kernel_rfl) rfl rfl
        have f18 : b.tmps.getD 18 undef = mg k i f t (.slice Av r.length capv) := h.dep 7 _ 18 (by kernel_rfl) rfl rfl
        refine good_call (wanted_yes rfl rfl f17) rfl (enters Tryd.func7 (by kernel_rfl) rfl) ?_
        rw [show (#[.tmp 18] : Array Operand).map b.eval = #[mg k i f t (.slice Av r.length capv)] by simp [Act.eval, f18]]
        exact (hsw.out _ (hX0.out.trans (g1.grown.trans h.ext))).mono fun e w1 ⟨he, hx⟩ => ⟨_, he, rfl, hx⟩
      · intro b w' h
        have f17 : b.tmps.getD 17 undef = .bool false := h.dep 6 _ 17 (by kernel_rfl) rfl rfl
        have f2 : b.tmps.getD 2 undef = .pointer (some ⟨w.heap.size, 0, none⟩) := h.else_ 2 (of_decide_eq_true (by kernel_rfl))
        have O1 := (O0.out.ext g1.grown).ext h.ext
        have k0 := O1.cell 0 rfl
        have k1 := O1.cell 1 rfl
        have k2 := O1.cell 2 rfl
        have k3 := O1.cell 3 rfl
        have k4 := O1.cell 4 rfl
        exact good_load (wanted_yes rfl rfl f17) rfl f2 (by simp [go_sem, k0, k1, k2, k3, k4]) rfl
      · intro b w' h
        have f17 : b.tmps.getD 17 undef = .bool false := h.dep 6 _ 17 (by kernel_rfl) rfl rfl
        have f20 : b.tmps.getD 20 undef = mg k i f t (.slice Av r.length capv) := h.dep 9 _ 20 (by kernel_rfl) rfl rfl
        refine good_call (wanted_yes rfl rfl f17) rfl (enters Tryd.func8 (by kernel_rfl) rfl) ?_
        rw [show (#[.tmp 20] : Array Operand).map b.eval = #[mg k i f t (.slice Av r.length capv)] by simp [Act.eval, f20]]
        exact (hrs.out _ (hX0.out.trans (g1.grown.trans h.ext))).mono fun e w1 ⟨he, hx⟩ => ⟨_, he, rfl, hx⟩
      · intro b w' h
        have f17 : b.tmps.getD 17 undef = .bool false := h.dep 6 _ 17 (by kernel_rfl) rfl rfl
        have f19 : b.tmps.getD 19 undef = .string ⟨T.toArray⟩ := h.dep 8 _ 19 (by kernel_rfl) rfl rfl
        have f21 : b.tmps.getD 21 undef = .string ⟨T.toArray⟩ := h.dep 10 _ 21 (by kernel_rfl) rfl rfl
        exact good_bin (wanted_yes rfl rfl f17) rfl f19 f21 (guard_str _) (run_neq_str Tryd.underlying9 _ _) rfl
      · intro b w' h
        have f17 : b.tmps.getD 17 undef = .bool false := h.dep 6 _ 17 (by kernel_rfl) rfl rfl
        have f22 : b.tmps.getD 22 undef = .bool false := h.dep 11 _ 22 (by kernel_rfl) rfl rfl
        exact good_pickF (wanted_none rfl) rfl f17 f22
    · intro b w2 hX2 hd hz he' hf
      have f23 : b.tmps.getD 23 undef = .bool false := hf 12 _ 23 rfl rfl
      have e := frame_puts hd hz he'
      obtain ⟨x, hx⟩ : ∃ x : Nat → Value, ∀ d, b.tmps.getD d undef = x d := ⟨_, fun _ => rfl⟩
      rw [show dstsOf _ = [11, 12, 13, 14, 15, 16, 17, 18, 19, 20, 21, 22, 23] from rfl] at e
      simp only [List.foldl_cons, List.foldl_nil, hx, Act.put, List.setIfInBounds_toArray, List.set_cons_succ, List.set_cons_zero] at e f23
      rw [f23] at e
      clear hf he' hz hd hx f23
      subst e
      obtain ⟨g2, rfl⟩ : ∃ g2 : GW g1.val, w2 = g2.val := ⟨⟨_, hX2⟩, rfl⟩
      have hG2 := hide ((hX0.out.trans g1.grown).trans g2.grown)
      go_wp2_with (first | (go_at_call 9; with_reducible refine seq_gw' (hck.out _ hG2.out) ?_; intro g3; have hlit := hide (World.ownsRow_made (base := g3.val.heap.size) (e := 5) (size := 1) g3.val #[] 0 (Nat.le_refl _) (Nat.zero_le _) rfl); have hB3 := hide (Sl.ext (Sl.own (S := []) ho1 (by simp)) (g3.grown.alloc (.cells #[] 5))); have hG3 := hide ((hX0.out.trans g1.grown).trans g3.grown)) | (at_builtin; (refine wpl_app tBytes rfl (.tmp 33) (.tmp 34) rfl rfl hlit.out rfl (src_sl Tryd.underlying27 hB3.out (bs_one _) (by omega)) (by unfold maxLen; omega) (by omega) (by simp) ?_; intro v4 w4 ho4 hg4 _; replace ho4 := own_app (l := []) ho4; rw [List.nil_append] at ho4; have hX4 := hide (ext_grown ((Ext.refl g3.val).alloc _) hg4 (fun k hk => (hlit.out.lt k hk).1)); have hz4 := hX4.out.size; have hv4 := hide (Sl.ext hv.out (hG3.out.trans hX4.out)))) | (at_builtin; (refine wpl_app tBytes rfl (.tmp 35) (.tmp 36) rfl rfl ho4 rfl (src_sl Tryd.underlying27 hv4.out (bs_one _) (by omega)) (by unfold maxLen; omega) (by omega) hz4 ?_; intro v5 w5 ho5 hg5 _; replace ho5 := own_app ho5; have hX5 := hide (ext_grown hX4.out hg5 (fun k hk => (ho4.lt k hk).1)))) | (go_at_call 11; (refine (newReader_c' [] _ (B ++ l) (by rw [List.length_append]; omega) _ (Sl.own (S := []) ho5 (by simp)) (by simp)).mono ?_; rintro ee w6 ⟨b, rfl, hb, hR6, hX6⟩; have hG6 := hide ((hG3.out.trans hX5.out).trans hX6))) | (go_at_call 12; (refine (hrd.out _ b _ hR6).mono ?_; rintro ee w7 ⟨v7, rfl, o7, hR7, hF7⟩; obtain ⟨A7, c7, rfl⟩ := own_form o7; have a1 := O0.out.lt; have a2 := g1.grown.size; have a3 := g3.grown.size; have a4 := hX5.out.size; have hG7 := hide (ext_fr hG6.out hF7 (by intro y hy; simp at hy; subst hy; omega)); have hne : b ≠ w.heap.size := (by omega); have O7 := ((O0.out.ext (g1.grown.trans (g3.grown.trans (hX5.out.trans hX6)))).fr hF7 (by simp; omega)); have k0 := O7.cell 0 rfl; have k1 := O7.cell 1 rfl; have k2 := O7.cell 2 rfl; have k3 := O7.cell 3 rfl; have k4 := O7.cell 4 rfl; have hlt7 := O7.lt; haveI : In w.heap.size w7 := ⟨hlt7⟩; have s7 := hide (Sl.ext (own_rw (S := []) o7 (by simp)) ((Ext.refl w7).alloc (.cells #[.int .i64 k, .int .i64 i, .int .i64 f, .int .i64 t, .slice A7 r.length c7] 26))); have sm := hide (Sl.ext hr'.out (hG7.out.alloc (.cells #[.int .i64 k, .int .i64 i, .int .i64 f, .int .i64 t, .slice A7 r.length c7] 26))); clear o7; replace hR7 := hide hR7)) | (go_at_call 10; ((with_reducible refine seq_gw (hlv.out _ (htb.out.ext (hG7.out.alloc _))) ?_); intro g8)) | (go_at_call 13; ((with_reducible refine seq_gw' (refMsgSame_c k i f t r _ k i f t r _ _ (Sl.ext s7.out g8.grown) (Sl.ext sm.out g8.grown)) ?_); rw [same_self]; intro g9)) | (go_at_call 14; (refine (left_c _ b _ _ _ (rdr_ext hR7.out (((Ext.refl _).alloc _).trans g9.grown))).mono ?_; rintro ee w9 ⟨rfl, rfl⟩)))
      go_returns
      exact ⟨by first | rfl | simp, (hG7.out.alloc _).trans g9.grown⟩

  · have hX0 := hide (show Ext w (w.alloc (.cells #[.int .i64 k, .int .i64 i, .int .i64 f, .int .i64 t, .slice Av r.length capv] 26)) from (Ext.refl w).alloc _)
    have O0 := hide (Ob.new w 26 [.int .i64 k, .int .i64 i, .int .i64 f, .int .i64 t, .slice Av r.length capv])
    rw [mB_bad hm] at hwb hrb
    obtain ⟨B, hBe⟩ : ∃ B : List UInt8, B = [] := ⟨_, rfl⟩
    rw [← hBe] at hwb hrb
    replace hBe := hide hBe
    generalize mT k i f t r = T at hsw hrs
    generalize mchk k i f t r = E at hck hm
    have hEb : (E != 0) = true := by simp [hm]
    clear hm hn
    go_enter Tryd.func3, Tryd.ntmps3
    go_wp2_with (go_at_call 5; refine (hwb.out _ hX0.out).mono ?_; rintro ee w1 ⟨v1, rfl, ho1, hx1⟩; obtain ⟨g1, rfl⟩ : ∃ g1 : GW (w.alloc (.cells #[.int .i64 k, .int .i64 i, .int .i64 f, .int .i64 t, .slice Av r.length capv] 26)), w1 = g1.val := ⟨⟨_, hx1⟩, rfl⟩; obtain ⟨A1, c1, rfl⟩ := own_form ho1)
    have hst : ∀ w', Ext g1.val w' → (convert 27 9 (.slice A1 B.length c1)).run Tryd.prog w' = .ok (.string ⟨B.toArray⟩) w' := fun w' hx => run_str Tryd.underlying27 Tryd.underlying5 Tryd.underlying9 (Sl.ext (Sl.own (S := []) ho1 (by simp)) hx)
    refine wp_region_list [.is (.slice A1 B.length c1), .is (.string ⟨B.toArray⟩), .is (mg k i f t (.slice Av r.length capv)), .bytes B, .is (.string ⟨B.toArray⟩), .is (.bool false), .is (.bool false), .is (mg k i f t (.slice Av r.length capv)), .is (.string ⟨T.toArray⟩), .is (mg k i f t (.slice Av r.length capv)), .is (.string ⟨T.toArray⟩), .is (.bool false), .is (.bool false)] (by kernel_rfl) (by kernel_rfl) (by kernel_rfl) ?_ ?_
    · refine ⟨?_, ?_, ?_, ?_, ?_, ?_, ?_, ?_, ?_, ?_, ?_, ?_, ?_, trivial⟩
      · intro b w' h
        have f5 : b.tmps.getD 5 undef = .slice A1 B.length c1 := h.else_ 5 (of_decide_eq_true (by kernel_rfl))
        exact good_move (wanted_none rfl) rfl f5
      · intro b w' h
        have f11 : b.tmps.getD 11 undef = .slice A1 B.length c1 := h.dep 0 _ 11 (by kernel_rfl) rfl rfl
        exact good_convert (wanted_none rfl) rfl (by rw [show b.eval (.tmp 11) = .slice A1 B.length c1 from f11]; exact hst _ h.ext) rfl
      · intro b w' h
        have f2 : b.tmps.getD 2 undef = .pointer (some ⟨w.heap.size, 0, none⟩) := h.else_ 2 (of_decide_eq_true (by kernel_rfl))
        have O1 := (O0.out.ext g1.grown).ext h.ext
        have k0 := O1.cell 0 rfl
        have k1 := O1.cell 1 rfl
        have k2 := O1.cell 2 rfl
        have k3 := O1.cell 3 rfl
        have k4 := O1.cell 4 rfl
        exact good_load (wanted_none rfl) rfl f2 (by simp [go_sem, k0, k1, k2, k3, k4]) rfl
      · intro b w' h
        have f13 : b.tmps.getD 13 undef = mg k i f t (.slice Av r.length capv) := h.dep 2 _ 13 (by kernel_rfl) rfl rfl
        refine good_call (wanted_none rfl) rfl (enters Tryd.func6 (by kernel_rfl) rfl) ?_
        rw [show (#[.tmp 13] : Array Operand).map b.eval = #[mg k i f t (.slice Av r.length capv)] by simp [Act.eval, f13]]
        exact (hrb.out _ (hX0.out.trans (g1.grown.trans h.ext))).mono fun e w1 ⟨v, he, ho, hx⟩ => ⟨v, he, Sl.own ho (by simp), hx⟩
      · intro b w' h
        have f14 := h.dep 3 _ 14 (by kernel_rfl) rfl rfl
        exact good_convert (wanted_none rfl) rfl (run_str Tryd.underlying27 Tryd.underlying5 Tryd.underlying9 f14) rfl
      · intro b w' h
        have f12 : b.tmps.getD 12 undef = .string ⟨B.toArray⟩ := h.dep 1 _ 12 (by kernel_rfl) rfl rfl
        have f15 : b.tmps.getD 15 undef = .string ⟨B.toArray⟩ := h.dep 4 _ 15 (by kernel_rfl) rfl rfl
        exact good_bin (wanted_none rfl) rfl f12 f15 (guard_str _) (run_neq_str Tryd.underlying9 _ _) rfl
      · intro b w' h
        have f16 : b.tmps.getD 16 undef = .bool false := h.dep 5 _ 16 (by kernel_rfl) rfl rfl
        exact good_move (wanted_none rfl) rfl f16
      · intro b w' h
        have f17 : b.tmps.getD 17 undef = .bool false := h.dep 6 _ 17 (by kernel_rfl) rfl rfl
        have f2 : b.tmps.getD 2 undef = .pointer (some ⟨w.heap.size, 0, none⟩) := h.else_ 2 (of_decide_eq_true (by kernel_rfl))
        have O1 := (O0.out.ext g1.grown).ext h.ext
        have k0 := O1.cell 0 rfl
        have k1 := O1.cell 1 rfl
        have k2 := O1.cell 2 rfl
        have k3 := O1.cell 3 rfl
        have k4 := O1.cell 4 rfl
        exact good_load (wanted_yes rfl rfl f17) rfl f2 (by simp [go_sem, k0, k1, k2, k3, k4]) rfl
      · intro b w' h
        have f17 : b.tmps.getD 17 undef = .bool false := h.dep 6 _ 17 (by kernel_rfl) rfl rfl
        have f18 : b.tmps.getD 18 undef = mg k i f t (.slice Av r.length capv) := h.dep 7 _ 18 (by kernel_rfl) rfl rfl
        refine good_call (wanted_yes rfl rfl f17) rfl (enters Tryd.func7 (by kernel_rfl) rfl) ?_
        rw [show (#[.tmp 18] : Array Operand).map b.eval = #[mg k i f t (.slice Av r.length capv)] by simp [Act.eval, f18]]
        exact (hsw.out _ (hX0.out.trans (g1.grown.trans h.ext))).mono fun e w1 ⟨he, hx⟩ => ⟨_, he, rfl, hx⟩
      · intro b w' h
        have f17 : b.tmps.getD 17 undef = .bool false := h.dep 6 _ 17 (by kernel_rfl) rfl rfl
        have f2 : b.tmps.getD 2 undef = .pointer (some ⟨w.heap.size, 0, none⟩) := h.else_ 2 (of_decide_eq_true (by kernel_rfl))
        have O1 := (O0.out.ext g1.grown).ext h.ext
        have k0 := O1.cell 0 rfl
        have k1 := O1.cell 1 rfl
        have k2 := O1.cell 2 rfl
        have k3 := O1.cell 3 rfl
        have k4 := O1.cell 4 rfl
        exact good_load (wanted_yes rfl rfl f17) rfl f2 (by simp [go_sem, k0, k1, k2, k3, k4]) rfl
      · intro b w' h
        have f17 : b.tmps.getD 17 undef = .bool false := h.dep 6 _ 17 (by kernel_rfl) rfl rfl
        have f20 : b.tmps.getD 20 undef = mg k i f t (.slice Av r.length capv) := h.dep 9 _ 20 (by kernel_rfl) rfl rfl
        refine good_call (wanted_yes rfl rfl f17) rfl (enters Tryd.func8 (by kernel_rfl) rfl) ?_
        rw [show (#[.tmp 20] : Array Operand).map b.eval = #[mg k i f t (.slice Av r.length capv)] by simp [Act.eval, f20]]
        exact (hrs.out _ (hX0.out.trans (g1.grown.trans h.ext))).mono fun e w1 ⟨he, hx⟩ => ⟨_, he, rfl, hx⟩
      · intro b w' h
        have f17 : b.tmps.getD 17 undef = .bool false := h.dep 6 _ 17 (by kernel_rfl) rfl rfl
        have f19 : b.tmps.getD 19 undef = .string ⟨T.toArray⟩ := h.dep 8 _ 19 (by kernel_rfl) rfl rfl
        have f21 : b.tmps.getD 21 undef = .string ⟨T.toArray⟩ := h.dep 10 _ 21 (by kernel_rfl) rfl rfl
        exact good_bin (wanted_yes rfl rfl f17) rfl f19 f21 (guard_str _) (run_neq_str Tryd.underlying9 _ _) rfl
      · intro b w' h
        have f17 : b.tmps.getD 17 undef = .bool false := h.dep 6 _ 17 (by kernel_rfl) rfl rfl
        have f22 : b.tmps.getD 22 undef = .bool false := h.dep 11 _ 22 (by kernel_rfl) rfl rfl
        exact good_pickF (wanted_none rfl) rfl f17 f22
    · intro b w2 hX2 hd hz he' hf
      have f23 : b.tmps.getD 23 undef = .bool false := hf 12 _ 23 rfl rfl
      have e := frame_puts hd hz he'
      obtain ⟨x, hx⟩ : ∃ x : Nat → Value, ∀ d, b.tmps.getD d undef = x d := ⟨_, fun _ => rfl⟩
      rw [show dstsOf _ = [11, 12, 13, 14, 15, 16, 17, 18, 19, 20, 21, 22, 23] from rfl] at e
      simp only [List.foldl_cons, List.foldl_nil, hx, Act.put, List.setIfInBounds_toArray, List.set_cons_succ, List.set_cons_zero] at e f23
      rw [f23] at e
      clear hf he' hz hd hx f23
      subst e
      obtain ⟨g2, rfl⟩ : ∃ g2 : GW g1.val, w2 = g2.val := ⟨⟨_, hX2⟩, rfl⟩
      have hG2 := hide ((hX0.out.trans g1.grown).trans g2.grown)
      rw [show B.length = 0 by rw [hBe.out]; rfl]
      go_wp2_with (first | (go_at_call 9; with_reducible refine seq_gw' (hck.out _ hG2.out) ?_; intro g3; have hG3 := hide ((hX0.out.trans g1.grown).trans g3.grown)) | (go_at_call 10; with_reducible refine seq_gw' (hlv.out _ (htb.out.ext hG3.out)) ?_; intro g4))
      go_returns
      exact ⟨by first | rfl | simp, ((hX0.out.trans g1.grown).trans g4.grown)⟩


theorem own : ownKnob Tryd.prog.godebug = none := by kernel_rfl
theorem laidOut : laidOutB Tryd.prog = true := by kernel_rfl
/-- The variables that the row lists. -/
def laidL : List (String × DataW Unit) := [("math/bits.deBruijn32tab", Rows.laid_math_bits_deBruijn32tab), ("math/bits.deBruijn64tab", Rows.laid_math_bits_deBruijn64tab), ("internal/strconv.uint64pow10", Rows.laid_internal_strconv_uint64pow10)]
theorem door_met (os : Os) (args : Array Value) : laidMetH Tryd.prog laidL ((World.doorLaid Tryd.prog 24 os).forCall (fun _ _ => 0) ⟨#[], args, []⟩).memory :=
  laidMetH_of_parts3 (fuel := 8) (laidMet_of_run' 8 (by kernel_rfl) (by kernel_rfl)) (by kernel_rfl) (by kernel_rfl)
set_option maxRecDepth 100000 in
theorem lifted (os : Os) (started : os.Started) (H : Type) (enc : TypeId × Value → H) :
    ReturnsInHanded {} Tryd.checked os 3 .any (fun w args => (Rows.msgBytesSpec.pre enc Tryd.prog Tryd.f3 [] false w args ∧ laidMetH Tryd.prog laidL w) ∧ sizedMet enc Tryd.prog Tryd.f3 (OpenSpec.ofChange Rows.msgBytesSpec) false w args) (Rows.msgBytesSpec.post enc Tryd.prog Tryd.f3 false true false false) := by
  refine returnsInHanded_of_change_and (C := Tryd.checked) (X := fun w _ => laidMetH Tryd.prog laidL w) (fun _ _ _ hh h => h.of_heap hh) own started (by kernel_rfl) Tryd.func3
    (ChangeSpec.witness_shaped (enc := enc) (C := Tryd.checked) (os := os) (X := fun w _ => laidMetH Tryd.prog laidL w) false (World.doorLaid Tryd.prog 24 os) #[.agg #[.int .i64 0, .int .i64 0, .int .i64 0, .int .i64 0, .slice none 0 0], .slice none 0 0] 8 rfl (World.shaped_of_RefB (by kernel_rfl) (by kernel_rfl)) (by kernel_rfl) (by kernel_rfl) (by kernel_rfl) (door_met os _)) ?_
  intro W base args ds gs before hval0 hW _ hsz0 hL _
  have hsz : (DataW.weightsEach Tryd.prog (Tryd.f3.params.toList ++ Rows.msgBytesSpec.plain.varTypes Tryd.prog) (ds ++ gs)).all (· ≤ reachBytes) = true := hsz0
  clear hsz0
  have hval : ∀ (j : Nat) t v, Tryd.f3.params[j]? = some t → args[j]? = some v → Value.okWide Tryd.prog W .any base t v := hval0
  have hW' := hW
  obtain ⟨p, q, hA0, hV, rfl, hfz, hnd⟩ := hW
  have hA : DataW.TrodAll enc Tryd.prog W 0 (fun _ => true) true Tryd.f3.params.toList args.toList ds p := hA0
  rw [Tryd.params3] at hA hval hsz
  obtain ⟨v0, vs0, d0, ds0, p0, q0, hargs, rfl, rfl, h0, r0⟩ := trodAll_cons hA
  obtain ⟨v1, vs1, d1, ds1, p1, q1, rfl, rfl, rfl, h1, r1⟩ := trodAll_cons r0
  obtain ⟨rfl, rfl, rfl⟩ := trodAll_nil r1
  obtain rfl : args = #[v0, v1] := by cases args; simp_all
  obtain ⟨rfl, rfl⟩ := trodVars_none hV
  have k0 := h0
  have lt0 : ∀ x ∈ p0, x.block < W.heap.size := by obtain ⟨m, hm⟩ := k0; exact DataW.trod_lt m _ _ _ hm
  obtain ⟨xk, xi, xf, xt, xl, xv, rfl, hx, wxk, wxi, wxf, wxt, qx⟩ := open_msg Tryd.underlying26 rfl rfl rfl rfl rfl (by kernel_rfl) (by kernel_rfl) (by kernel_rfl) (by kernel_rfl) (by kernel_rfl) Tryd.underlying22 Tryd.underlying3 Tryd.underlying3 Tryd.underlying3 Tryd.underlying24 Tryd.underlying58 (by kernel_rfl) rfl rfl rfl (by kernel_rfl) (by kernel_rfl) (by kernel_rfl) Tryd.underlying56 Tryd.underlying3 Tryd.underlying9 (by kernel_rfl) (hval 0 26 v0 rfl rfl) h0
  have k1 := h1
  have lt1 : ∀ x ∈ p1, x.block < W.heap.size := by obtain ⟨m, hm⟩ := k1; exact DataW.trod_lt m _ _ _ hm
  obtain ⟨A1, n1, c1, rfl⟩ := okWide_slice Tryd.underlying27 (hval 1 27 v1 rfl rfl)
  have ⟨m1, hm1⟩ := h1
  obtain ⟨l, ll, hl⟩ := open_bytes Tryd.underlying27 Tryd.underlying5 (by kernel_rfl) hm1
  have zl : l.length ≤ 140737488351232 := by rw [ll]; exact sized_len hsz (j := 1) (t := 27) (e := 5) rfl rfl Tryd.underlying27 (of_decide_eq_true (by kernel_rfl))
  clear hA0 hval0
  have hL' := hL
  rw [MakeChecks.laidMetH_plain _ _ _ (by kernel_rfl)] at hL'
  have ht : Tab W := Lib.tabIs_of_head (g := 1) (by kernel_rfl) (by kernel_rfl) Tryd.underlying128 Tryd.underlying74 (by kernel_rfl) (by kernel_rfl) (laidMet.tail (laidMet.tail hL'))
  refine (walk xk xi xf xt xl xv l _ W qx hx zl hl ht).mono fun e W' ⟨he, bel⟩ => ?_
  subst he
  exact ⟨_, rfl, _, _, _, [], _, [], hW', trodAll_mk1 (shut_bool Tryd.underlying4 _), (trodAll_cons_mk (Below.trod laidOut (by kernel_rfl) (of_decide_eq_true (by kernel_rfl)) k0 bel lt0) (trodAll_cons_mk (Below.trod laidOut (by kernel_rfl) (of_decide_eq_true (by kernel_rfl)) k1 bel lt1) trodAll_mk0)), rfl, bel.frame _, fun h => by cases h⟩

theorem over : Rows.msgBytesRow.holds Tryd.pinned (OpenSpec.ofChange Rows.msgBytesSpec) :=
  OpenClaim.holds_of_wide 3 Tryd.f3 rfl rfl rfl rfl rfl rfl rfl ⟨rfl, rfl, rfl, rfl, rfl⟩ rfl rfl rfl rfl rfl (by kernel_rfl) Tryd.func3 (by kernel_rfl)
    (of_decide_eq_true (by kernel_rfl)) (by unfold Func.isWrapper; first | (rw [if_pos (by decide +kernel)]; kernel_rfl) | (rw [if_neg (by decide +kernel)]; exact ⟨rfl, rfl⟩))
    (fun os started H enc _ => lifted os started H enc)

theorem msgBytes_holds : Rows.MsgBytesSaid := over
theorem msgBytes_card : Rows.MsgBytesCardSaid :=
  Claim7.holds_tied_plain_at .later [] [.data, .data, .data] true (true, "1aba4457bb0215d1cd09457d92c9e753ba11f3594b6a9010ccbaf622ec9466f5") false
    over (fun _ h => by cases h) (by kernel_rfl) (fun _ h => by cases h) msgBytes_row_tie rfl ⟨rfl, rfl⟩ (by kernel_rfl) rfl
    (fun f fn hf hfn => by
      obtain rfl : f = 3 := Option.some.inj ((show Tryd.prog.funcNamed "rescind/rescindlaw08.MsgBytes" = some 3 by kernel_rfl).symm.trans hf) |>.symm
      obtain rfl : fn = Tryd.f3 := (Option.some.inj (Tryd.func3.symm.trans hfn)).symm
      exact ⟨by kernel_rfl, fun j t ht => by
        rw [Tryd.params3] at ht
        have hm : t ∈ [26, 27] := by simpa using Array.mem_of_getElem? ht
        have hall : ([26, 27].all fun u => !Tryd.prog.wantsStandIn u) = true := by kernel_rfl
        exact (show Tryd.prog.wantsStandIn t = false by simpa using List.all_eq_true.1 hall t hm)⟩)
    (by kernel_rfl)
end Go.Proofs.YthidjngipkelcaaDoor.msgBytes
