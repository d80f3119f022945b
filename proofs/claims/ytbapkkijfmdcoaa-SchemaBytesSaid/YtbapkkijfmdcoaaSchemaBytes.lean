/-
  Layer 7 (schema), 7.3, 7.4: for every schema, and bytes behind it, its bytes and how it is written are those that the document says; its bytes are read as it, and what stands behind them is left. No condition.
-/
import Derived.Test.YtbapkkijfmdcoaaSchL
import Derived.Test.YtbapkkijfmdcoaaArgC
import Derived.Test.YtbapkkijfmdcoaaSchR
import Derived.Test.YtbapkkijfmdcoaaSchY
import Derived.Test.YtbapkkijfmdcoaaSchW
import Derived.Test.YtbapkkijfmdcoaaReg
import Derived.Test.YtbapkkijfmdcoaaReg2
import Derived.Test.YtbapkkijfmdcoaaReg3
import Derived.WalkKit
import Derived.ProofKit
import Derived.OpenShut
import Derived.ShutString
import Derived.ChangeOld
import Derived.Below
import Derived.Lib.SmallJoins
import Derived.SizedLaws
import Derived.Deep.CondSized
import Derived.JoinedCond
set_option linter.unusedVariables false
set_option linter.unusedSimpArgs false
namespace Go.Proofs.Ytbapkkijfmdcoaa.schemaBytes
open Go.ChangeShapes Go.WideShapes Go.ChangeAt Go.RowKit Go.Joins
open Go.ChangeMaps (open_string shut_string)
attribute [local go_sem] GW.cell GW.frozen In.eq_true In.le_true In.ne In.ne' In.ne_add In.ne_add' In.lt_add Upto.le_true Upto.le_add Upto.lt_add

set_option maxHeartbeats 8000000 in
set_option maxRecDepth 100000 in
theorem walk (s : List Cl) (l : List UInt8) (v1 va : Value) (w : World) (hs : Cw w [] v1 s) (hl : l.length ≤ 140737488351232) (hv : By w [] va l) : Calls Try.prog 7 #[v1, va] w fun e w' => e = .returned (.bool true) ∧ Ext w w' := by
  have hwb := hide (schBytes_c s v1 w hs)
  have hrb := hide (fun w' (hX : Ext w w') => refSchBytes_c s v1 w' (Sl.ext hs hX))
  have hsw := hide (fun w' (hX : Ext w w') => showS_c s v1 w' (Sl.ext hs hX))
  have hrs := hide (fun w' (hX : Ext w w') => refShowS_c s v1 w' (Sl.ext hs hX))
  have hck := hide (fun w' (hX : Ext w w') => mayS_c s v1 w' (Sl.ext hs hX))
  have hs' := hide hs
  have hBl := schB_len s
  obtain ⟨A, cap, rfl, hlc, hcm, -⟩ := id hv
  unfold maxLen at hcm
  replace hv := hide hv
  obtain ⟨Av, capv, rfl, -, -, -⟩ := cw_form hs
  clear hs
  have sV : eqP (fun x y : Cl => decide (x = y)) s s = true := by rw [eqP_dec]; simp
  replace sV := hide sV
  generalize showS s = T at hsw hrs
  cases hm : mayS s
  · have hB0 : schB s = [] := by unfold schB; rw [hm, if_neg (by decide)]
    rw [hm] at hck
    have hBz : ((schB s).length : Int) = 0 := by rw [hB0]; rfl
    generalize schB s = B at hwb hrb hBl hBz
    clear hm hB0 hBl
    go_enter Try.func7, Try.ntmps7
    go_wp2_with (go_at_call 28; refine hwb.out.mono ?_; rintro ee w1 ⟨v1, rfl, ho1, hx1⟩; obtain ⟨g1, rfl⟩ : ∃ g1 : GW w, w1 = g1.val := ⟨⟨_, hx1⟩, rfl⟩; obtain ⟨A1, c1, rfl⟩ := own_form ho1)
    have hst : ∀ w', Ext g1.val w' → (convert 47 9 (.slice A1 B.length c1)).run Try.prog w' = .ok (.string ⟨B.toArray⟩) w' := fun w' hx => run_str Try.underlying47 Try.underlying5 Try.underlying9 (Sl.ext (Sl.own (S := []) ho1 (by simp)) hx)
    refine wp_region_list [.is (.slice A1 B.length c1), .is (.string ⟨B.toArray⟩), .is (.slice Av s.length capv), .bytes B, .is (.string ⟨B.toArray⟩), .is (.bool false), .is (.bool false), .is (.slice Av s.length capv), .is (.string T), .is (.slice Av s.length capv), .is (.string T), .is (.bool false), .is (.bool false)] (by kernel_rfl) (by kernel_rfl) (by kernel_rfl) ?_ ?_
    · refine ⟨?_, ?_, ?_, ?_, ?_, ?_, ?_, ?_, ?_, ?_, ?_, ?_, ?_, trivial⟩
      · intro b w' h
        have f5 : b.tmps.getD 5 undef = .slice A1 B.length c1 := h.else_ 5 (of_decide_eq_true (by kernel_rfl))
        exact good_move (wanted_none rfl) rfl f5
      · intro b w' h
        have f11 : b.tmps.getD 11 undef = .slice A1 B.length c1 := h.dep 0 _ 11 (by kernel_rfl) rfl rfl
        exact good_convert (wanted_none rfl) rfl (by rw [show b.eval (.tmp 11) = .slice A1 B.length c1 from f11]; exact hst _ h.ext) rfl
      · intro b w' h
        have f0 : b.tmps.getD 0 undef = (.slice Av s.length capv) := h.else_ 0 (of_decide_eq_true (by kernel_rfl))
        exact good_move (wanted_none rfl) rfl f0
      · intro b w' h
        have f13 : b.tmps.getD 13 undef = (.slice Av s.length capv) := h.dep 2 _ 13 (by kernel_rfl) rfl rfl
        refine good_call (wanted_none rfl) rfl (enters Try.func29 (by kernel_rfl) rfl) ?_
        rw [show (#[.tmp 13] : Array Operand).map b.eval = #[(.slice Av s.length capv)] by simp [Act.eval, f13]]
        exact (hrb.out _ (g1.grown.trans h.ext)).mono fun e w1 ⟨v, he, ho, hx⟩ => ⟨v, he, Sl.own ho (by simp), hx⟩
      · intro b w' h
        have f14 := h.dep 3 _ 14 (by kernel_rfl) rfl rfl
        exact good_convert (wanted_none rfl) rfl (run_str Try.underlying47 Try.underlying5 Try.underlying9 f14) rfl
      · intro b w' h
        have f12 : b.tmps.getD 12 undef = .string ⟨B.toArray⟩ := h.dep 1 _ 12 (by kernel_rfl) rfl rfl
        have f15 : b.tmps.getD 15 undef = .string ⟨B.toArray⟩ := h.dep 4 _ 15 (by kernel_rfl) rfl rfl
        exact good_bin (wanted_none rfl) rfl f12 f15 (guard_str _) (run_neq_str Try.underlying9 _ _) rfl
      · intro b w' h
        have f16 : b.tmps.getD 16 undef = .bool false := h.dep 5 _ 16 (by kernel_rfl) rfl rfl
        exact good_move (wanted_none rfl) rfl f16
      · intro b w' h
        have f17 : b.tmps.getD 17 undef = .bool false := h.dep 6 _ 17 (by kernel_rfl) rfl rfl
        have f0 : b.tmps.getD 0 undef = (.slice Av s.length capv) := h.else_ 0 (of_decide_eq_true (by kernel_rfl))
        exact good_move (wanted_yes rfl rfl f17) rfl f0
      · intro b w' h
        have f17 : b.tmps.getD 17 undef = .bool false := h.dep 6 _ 17 (by kernel_rfl) rfl rfl
        have f18 : b.tmps.getD 18 undef = (.slice Av s.length capv) := h.dep 7 _ 18 (by kernel_rfl) rfl rfl
        refine good_call (wanted_yes rfl rfl f17) rfl (enters Try.func30 (by kernel_rfl) rfl) ?_
        rw [show (#[.tmp 18] : Array Operand).map b.eval = #[(.slice Av s.length capv)] by simp [Act.eval, f18]]
        exact (hsw.out _ (g1.grown.trans h.ext)).mono fun e w1 ⟨he, hx⟩ => ⟨_, he, rfl, hx⟩
      · intro b w' h
        have f17 : b.tmps.getD 17 undef = .bool false := h.dep 6 _ 17 (by kernel_rfl) rfl rfl
        have f0 : b.tmps.getD 0 undef = (.slice Av s.length capv) := h.else_ 0 (of_decide_eq_true (by kernel_rfl))
        exact good_move (wanted_yes rfl rfl f17) rfl f0
      · intro b w' h
        have f17 : b.tmps.getD 17 undef = .bool false := h.dep 6 _ 17 (by kernel_rfl) rfl rfl
        have f20 : b.tmps.getD 20 undef = (.slice Av s.length capv) := h.dep 9 _ 20 (by kernel_rfl) rfl rfl
        refine good_call (wanted_yes rfl rfl f17) rfl (enters Try.func31 (by kernel_rfl) rfl) ?_
        rw [show (#[.tmp 20] : Array Operand).map b.eval = #[(.slice Av s.length capv)] by simp [Act.eval, f20]]
        exact (hrs.out _ (g1.grown.trans h.ext)).mono fun e w1 ⟨he, hx⟩ => ⟨_, he, rfl, hx⟩
      · intro b w' h
        have f17 : b.tmps.getD 17 undef = .bool false := h.dep 6 _ 17 (by kernel_rfl) rfl rfl
        have f19 : b.tmps.getD 19 undef = .string T := h.dep 8 _ 19 (by kernel_rfl) rfl rfl
        have f21 : b.tmps.getD 21 undef = .string T := h.dep 10 _ 21 (by kernel_rfl) rfl rfl
        exact good_bin (wanted_yes rfl rfl f17) rfl f19 f21 (guard_str _) (run_neq_str Try.underlying9 _ _) rfl
      · intro b w' h
        have f17 : b.tmps.getD 17 undef = .bool false := h.dep 6 _ 17 (by kernel_rfl) rfl rfl
        have f22 : b.tmps.getD 22 undef = .bool false := h.dep 11 _ 22 (by kernel_rfl) rfl rfl
        exact good_pickF (wanted_none rfl) rfl f17 f22
    · intro b w2 hX2 hd hz he' hf
      have f23 : b.tmps.getD 23 undef = .bool false := hf 12 _ 23 rfl rfl
      have e := frame_puts hd hz he'
      obtain ⟨x, hx⟩ : ∃ x : Nat → Value, ∀ d, b.tmps.getD d undef = x d := ⟨_, fun _ => rfl⟩
      rw [show dstsOf _ = [11, 12, 13, 14, 15, 16, 17, 18, 19, 20, 21, 22, 23] from rfl] at e
      simp only [List.foldl_cons, List.foldl_nil, hx, Act.put, List.setIfInBounds_toArray, List.set_cons_succ, List.set_cons_zero] at e f23
      rw [f23] at e
      clear hf he' hz hd hx f23
      subst e
      obtain ⟨g2, rfl⟩ : ∃ g2 : GW g1.val, w2 = g2.val := ⟨⟨_, hX2⟩, rfl⟩
      have hG2 := hide (g1.grown.trans g2.grown)
      go_wp2_with (first | (go_at_call 12; with_reducible refine seq_gw' (hck.out _ hG2.out) ?_; intro g3) | (go_at_call 9; first | (with_reducible refine seq_gw' (schLive_c _) ?_; intro g4) | (with_reducible refine seq_gw (schLive_c _) ?_; intro g4)))
      go_returns
      exact ⟨by first | rfl | simp | simp [hBz], (g1.grown.trans g4.grown)⟩
  · rw [hm] at hck
    have hbk := sch_back hm l
    generalize schB s = B at hwb hrb hbk hBl
    have hrd : Hid (∀ (S : List Nat) (b : Nat) (w' : World), Rdr w' S b (B ++ l, 0) → Calls Try.prog 33 #[.pointer (some ⟨b, 0, none⟩)] w' fun z w'' => ∃ v', z = .returned (.tuple #[v', .int .i64 0]) ∧ OwnC w'' w'.heap.size v' s ∧ Rdr w'' S b (l, 0) ∧ Fr [b] w' w'') := hide (by
      intro S b w' h
      have := schRead_c S b (B ++ l) w' h
      rw [hbk.1, hbk.2.1, hbk.2.2] at this
      exact this)
    clear hbk hm
    go_enter Try.func7, Try.ntmps7
    go_wp2_with (go_at_call 28; refine hwb.out.mono ?_; rintro ee w1 ⟨v1, rfl, ho1, hx1⟩; obtain ⟨g1, rfl⟩ : ∃ g1 : GW w, w1 = g1.val := ⟨⟨_, hx1⟩, rfl⟩; obtain ⟨A1, c1, rfl⟩ := own_form ho1)
    have hst : ∀ w', Ext g1.val w' → (convert 47 9 (.slice A1 B.length c1)).run Try.prog w' = .ok (.string ⟨B.toArray⟩) w' := fun w' hx => run_str Try.underlying47 Try.underlying5 Try.underlying9 (Sl.ext (Sl.own (S := []) ho1 (by simp)) hx)
    refine wp_region_list [.is (.slice A1 B.length c1), .is (.string ⟨B.toArray⟩), .is (.slice Av s.length capv), .bytes B, .is (.string ⟨B.toArray⟩), .is (.bool false), .is (.bool false), .is (.slice Av s.length capv), .is (.string T), .is (.slice Av s.length capv), .is (.string T), .is (.bool false), .is (.bool false)] (by kernel_rfl) (by kernel_rfl) (by kernel_rfl) ?_ ?_
    · refine ⟨?_, ?_, ?_, ?_, ?_, ?_, ?_, ?_, ?_, ?_, ?_, ?_, ?_, trivial⟩
      · intro b w' h
        have f5 : b.tmps.getD 5 undef = .slice A1 B.length c1 := h.else_ 5 (of_decide_eq_true (by kernel_rfl))
        exact good_move (wanted_none rfl) rfl f5
      · intro b w' h
        have f11 : b.tmps.getD 11 undef = .slice A1 B.length c1 := h.dep 0 _ 11 (by kernel_rfl) rfl rfl
        exact good_convert (wanted_none rfl) rfl (by rw [show b.eval (.tmp 11) = .slice A1 B.length c1 from f11]; exact hst _ h.ext) rfl
      · intro b w' h
        have f0 : b.tmps.getD 0 undef = (.slice Av s.length capv) := h.else_ 0 (of_decide_eq_true (by kernel_rfl))
        exact good_move (wanted_none rfl) rfl f0
      · intro b w' h
        have f13 : b.tmps.getD 13 undef = (.slice Av s.length capv) := h.dep 2 _ 13 (by kernel_rfl) rfl rfl
        refine good_call (wanted_none rfl) rfl (enters Try.func29 (by kernel_rfl) rfl) ?_
        rw [show (#[.tmp 13] : Array Operand).map b.eval = #[(.slice Av s.length capv)] by simp [Act.eval, f13]]
        exact (hrb.out _ (g1.grown.trans h.ext)).mono fun e w1 ⟨v, he, ho, hx⟩ => ⟨v, he, Sl.own ho (by simp), hx⟩
      · intro b w' h
        have f14 := h.dep 3 _ 14 (by kernel_rfl) rfl rfl
        exact good_convert (wanted_none rfl) rfl (run_str Try.underlying47 Try.underlying5 Try.underlying9 f14) rfl
      · intro b w' h
        have f12 : b.tmps.getD 12 undef = .string ⟨B.toArray⟩ := h.dep 1 _ 12 (by kernel_rfl) rfl rfl
        have f15 : b.tmps.getD 15 undef = .string ⟨B.toArray⟩ := h.dep 4 _ 15 (by kernel_rfl) rfl rfl
        exact good_bin (wanted_none rfl) rfl f12 f15 (guard_str _) (run_neq_str Try.underlying9 _ _) rfl
      · intro b w' h
        have f16 : b.tmps.getD 16 undef = .bool false := h.dep 5 _ 16 (by kernel_rfl) rfl rfl
        exact good_move (wanted_none rfl) rfl f16
      · intro b w' h
        have f17 : b.tmps.getD 17 undef = .bool false := h.dep 6 _ 17 (by kernel_rfl) rfl rfl
        have f0 : b.tmps.getD 0 undef = (.slice Av s.length capv) := h.else_ 0 (of_decide_eq_true (by kernel_rfl))
        exact good_move (wanted_yes rfl rfl f17) rfl f0
      · intro b w' h
        have f17 : b.tmps.getD 17 undef = .bool false := h.dep 6 _ 17 (by kernel_rfl) rfl rfl
        have f18 : b.tmps.getD 18 undef = (.slice Av s.length capv) := h.dep 7 _ 18 (by kernel_rfl) rfl rfl
        refine good_call (wanted_yes rfl rfl f17) rfl (enters Try.func30 (by kernel_rfl) rfl) ?_
        rw [show (#[.tmp 18] : Array Operand).map b.eval = #[(.slice Av s.length capv)] by simp [Act.eval, f18]]
        exact (hsw.out _ (g1.grown.trans h.ext)).mono fun e w1 ⟨he, hx⟩ => ⟨_, he, rfl, hx⟩
      · intro b w' h
        have f17 : b.tmps.getD 17 undef = .bool false := h.dep 6 _ 17 (by kernel_rfl) rfl rfl
        have f0 : b.tmps.getD 0 undef = (.slice Av s.length capv) := h.else_ 0 (of_decide_eq_true (by kernel_rfl))
        exact good_move (wanted_yes rfl rfl f17) rfl f0
      · intro b w' h
        have f17 : b.tmps.getD 17 undef = .bool false := h.dep 6 _ 17 (by kernel_rfl) rfl rfl
        have f20 : b.tmps.getD 20 undef = (.slice Av s.length capv) := h.dep 9 _ 20 (by kernel_rfl) rfl rfl
        refine good_call (wanted_yes rfl rfl f17) rfl (enters Try.func31 (by kernel_rfl) rfl) ?_
        rw [show (#[.tmp 20] : Array Operand).map b.eval = #[(.slice Av s.length capv)] by simp [Act.eval, f20]]
        exact (hrs.out _ (g1.grown.trans h.ext)).mono fun e w1 ⟨he, hx⟩ => ⟨_, he, rfl, hx⟩
      · intro b w' h
        have f17 : b.tmps.getD 17 undef = .bool false := h.dep 6 _ 17 (by kernel_rfl) rfl rfl
        have f19 : b.tmps.getD 19 undef = .string T := h.dep 8 _ 19 (by kernel_rfl) rfl rfl
        have f21 : b.tmps.getD 21 undef = .string T := h.dep 10 _ 21 (by kernel_rfl) rfl rfl
        exact good_bin (wanted_yes rfl rfl f17) rfl f19 f21 (guard_str _) (run_neq_str Try.underlying9 _ _) rfl
      · intro b w' h
        have f17 : b.tmps.getD 17 undef = .bool false := h.dep 6 _ 17 (by kernel_rfl) rfl rfl
        have f22 : b.tmps.getD 22 undef = .bool false := h.dep 11 _ 22 (by kernel_rfl) rfl rfl
        exact good_pickF (wanted_none rfl) rfl f17 f22
    · intro b w2 hX2 hd hz he' hf
      have f23 : b.tmps.getD 23 undef = .bool false := hf 12 _ 23 rfl rfl
      have e := frame_puts hd hz he'
      obtain ⟨x, hx⟩ : ∃ x : Nat → Value, ∀ d, b.tmps.getD d undef = x d := ⟨_, fun _ => rfl⟩
      rw [show dstsOf _ = [11, 12, 13, 14, 15, 16, 17, 18, 19, 20, 21, 22, 23] from rfl] at e
      simp only [List.foldl_cons, List.foldl_nil, hx, Act.put, List.setIfInBounds_toArray, List.set_cons_succ, List.set_cons_zero] at e f23
      rw [f23] at e
      clear hf he' hz hd hx f23
      subst e
      obtain ⟨g2, rfl⟩ : ∃ g2 : GW g1.val, w2 = g2.val := ⟨⟨_, hX2⟩, rfl⟩
      have hG2 := hide (g1.grown.trans g2.grown)
      go_wp2_with (first | (go_at_call 12; with_reducible refine seq_gw' (hck.out _ hG2.out) ?_; intro g3; have hlit := hide (World.ownsRow_made (base := g3.val.heap.size) (e := 5) (size := 1) g3.val #[] 0 (Nat.le_refl _) (Nat.zero_le _) rfl); have hB3 := hide (Sl.ext (Sl.own (S := []) ho1 (by simp)) (g3.grown.alloc (.cells #[] 5))); have hG3 := hide (g1.grown.trans g3.grown)) | (at_builtin; (refine wpl_app tBytes rfl (.tmp 33) (.tmp 34) rfl rfl hlit.out rfl (src_sl Try.underlying47 hB3.out (bs_one _) (by omega)) (by unfold maxLen; omega) (by omega) (by simp) ?_; intro v4 w4 ho4 hg4 _; replace ho4 := own_app (l := []) ho4; rw [List.nil_append] at ho4; have hX4 := hide (ext_grown ((Ext.refl g3.val).alloc _) hg4 (fun k hk => (hlit.out.lt k hk).1)); have hz4 := hX4.out.size; have hv4 := hide (Sl.ext hv.out (hG3.out.trans hX4.out)))) | (at_builtin; (refine wpl_app tBytes rfl (.tmp 35) (.tmp 36) rfl rfl ho4 rfl (src_sl Try.underlying47 hv4.out (bs_one _) (by omega)) (by unfold maxLen; omega) (by omega) hz4 ?_; intro v5 w5 ho5 hg5 _; replace ho5 := own_app ho5; have hX5 := hide (ext_grown hX4.out hg5 (fun k hk => (ho4.lt k hk).1)))) | (go_at_call 32; (refine (newReader_c' [] _ (B ++ l) (by rw [List.length_append]; omega) _ (Sl.own (S := []) ho5 (by simp)) (by simp)).mono ?_; rintro ee w6 ⟨b, rfl, hb, hR6, hX6⟩; have hG6 := hide ((hG3.out.trans hX5.out).trans hX6))) | (go_at_call 33; (refine (hrd.out _ b _ hR6).mono ?_; rintro ee w7 ⟨v7, rfl, o7, hR7, hF7⟩; obtain ⟨A7, c7, rfl⟩ := own_form o7; have a2 := g1.grown.size; have a3 := g3.grown.size; have a4 := hX5.out.size; have hG7 := hide (ext_fr hG6.out hF7 (by intro y hy; simp at hy; subst hy; omega)); have s7 := hide (own_cw (S := []) o7 (by simp)); have sm := hide (Sl.ext hs'.out hG7.out); clear o7; replace hR7 := hide hR7)) | (go_at_call 9; ((with_reducible refine seq_gw (schLive_c _) ?_); intro g8)) | (go_at_call 15; ((with_reducible refine seq_gw' (refSameS_c (Sl.ext sm.out g8.grown) (Sl.ext s7.out g8.grown)) ?_); rw [sV.out]; intro g9)) | (go_at_call 34; (refine (left_c _ b _ _ _ (rdr_ext hR7.out g9.grown)).mono ?_; rintro ee w9 ⟨rfl, rfl⟩)))
      go_returns
      exact ⟨by first | rfl | simp, hG7.out.trans g9.grown⟩

theorem own : ownKnob Try.prog.godebug = none := by kernel_rfl
theorem laidOut : laidOutB Try.prog = true := by kernel_rfl
set_option maxRecDepth 100000 in
theorem lifted (os : Os) (started : os.Started) (H : Type) (enc : TypeId × Value → H) :
    ReturnsInHanded {} Try.checked os 7 .any (Rows.schemaBytesSpec.pre6 enc Try.prog Try.f7 Rows.schemaBytesRow.domain false) (Rows.schemaBytesSpec.post enc Try.prog Try.f7 false true false false) := by
  refine returnsInHanded_of_change_sized (C := Try.checked) own started (by kernel_rfl) Try.func7
    (ChangeSpec.witness6 (enc := enc) (C := Try.checked) false ⟨#[], #[.slice none 0 0, .slice none 0 0], []⟩ 8 (by kernel_rfl) (by kernel_rfl) (by kernel_rfl) (by kernel_rfl)) ?_
  intro W base args ds gs before hval0 hW hcnd hsz0 _
  have hsz : (DataW.weightsEach Try.prog (Try.f7.params.toList ++ Rows.schemaBytesSpec.plain.varTypes Try.prog) (ds ++ gs)).all (· ≤ reachBytes) = true := hsz0
  clear hsz0
  have hval : ∀ (j : Nat) t v, Try.f7.params[j]? = some t → args[j]? = some v → Value.okWide Try.prog W .any base t v := hval0
  have hW' := hW
  obtain ⟨p, q, hA0, hV, rfl, hfz, hnd⟩ := hW
  have hA : DataW.TrodAll enc Try.prog W 0 (fun _ => true) true Try.f7.params.toList args.toList ds p := hA0
  rw [Try.params7] at hA hval hsz
  obtain ⟨v0, vs0, d0, ds0, p0, q0, hargs, rfl, rfl, h0, r0⟩ := trodAll_cons hA
  obtain ⟨v1, vs1, d1, ds1, p1, q1, rfl, rfl, rfl, h1, r1⟩ := trodAll_cons r0
  obtain ⟨rfl, rfl, rfl⟩ := trodAll_nil r1
  obtain rfl : args = #[v0, v1] := by cases args; simp_all
  obtain ⟨rfl, rfl⟩ := trodVars_none hV
  have k0 := h0
  have lt0 : ∀ x ∈ p0, x.block < W.heap.size := by obtain ⟨m, hm⟩ := k0; exact DataW.trod_lt m _ _ _ hm
  obtain ⟨A0, n0, c0, rfl⟩ := okWide_slice Try.underlying25 (hval 0 25 v0 rfl rfl)
  have ⟨m0, hm0⟩ := h0
  obtain ⟨s, ls, hs⟩ := open_cols Try.underlying25 Try.underlying34 (by kernel_rfl) rfl rfl (by kernel_rfl) (by kernel_rfl) Try.underlying9 Try.underlying32 hm0
  have zs : s.length * 24 ≤ 140737488351232 := by rw [ls]; exact sized_elems hsz (j := 0) (t := 25) (e := 34) rfl rfl Try.underlying25 (by kernel_rfl)
  have k1 := h1
  have lt1 : ∀ x ∈ p1, x.block < W.heap.size := by obtain ⟨m, hm⟩ := k1; exact DataW.trod_lt m _ _ _ hm
  obtain ⟨A1, n1, c1, rfl⟩ := okWide_slice Try.underlying47 (hval 1 47 v1 rfl rfl)
  have ⟨m1, hm1⟩ := h1
  obtain ⟨l, ll, hl⟩ := open_bytes Try.underlying47 Try.underlying5 (by kernel_rfl) hm1
  have zl : l.length ≤ 140737488351232 := by rw [ll]; exact sized_len hsz (j := 1) (t := 47) (e := 5) rfl rfl Try.underlying47 (of_decide_eq_true (by kernel_rfl))
  clear hA0 hval0
  refine (walk s l _ _ W hs zl hl).mono fun e W' ⟨he, bel⟩ => ?_
  subst he
  exact ⟨_, rfl, _, _, _, [], _, [], hW', trodAll_mk1 (shut_bool Try.underlying4 _), (trodAll_cons_mk (Below.trod laidOut (by kernel_rfl) (of_decide_eq_true (by kernel_rfl)) k0 bel lt0) (trodAll_cons_mk (Below.trod laidOut (by kernel_rfl) (of_decide_eq_true (by kernel_rfl)) k1 bel lt1) trodAll_mk0)), rfl, bel.frame _, fun h => by cases h⟩

theorem over : Rows.schemaBytesRow.holds Try.pinned (OpenSpec.ofChange Rows.schemaBytesSpec) :=
  OpenClaim.holds_of_wide 7 Try.f7 rfl rfl rfl rfl rfl rfl rfl ⟨rfl, rfl, rfl, rfl, rfl⟩ rfl rfl rfl rfl rfl (by kernel_rfl) Try.func7 (by kernel_rfl)
    (of_decide_eq_true (by kernel_rfl)) (by unfold Func.isWrapper; first | (rw [if_pos (by decide +kernel)]; kernel_rfl) | (rw [if_neg (by decide +kernel)]; exact ⟨rfl, rfl⟩))
    (fun os started H enc _ => lifted os started H enc)

theorem schemaBytes_holds : Rows.SchemaBytesSaid := over
end Go.Proofs.Ytbapkkijfmdcoaa.schemaBytes
