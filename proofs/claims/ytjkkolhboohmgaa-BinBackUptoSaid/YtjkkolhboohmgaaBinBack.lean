/-
  Layer 3 (bin), 3.4: numbers and texts that were written one behind the other, and bytes behind them, are read as they were, and what is behind them is left. Where what comes in is of bulk at most 1048576.
-/
import Derived.Test.YtjkkolhboohmgaaBinL
import Derived.Test.YtjkkolhboohmgaaBinP
import Derived.Test.YtjkkolhboohmgaaArg
import Derived.Test.YtjkkolhboohmgaaBulk
import Derived.WalkKit
import Derived.ProofKit
import Derived.OpenShut
import Derived.ShutString
import Derived.ChangeOld
import Derived.Below
import Derived.Lib.SmallJoins
import Derived.SizedLaws
import Derived.Deep.CondSized
import Derived.JoinedCond
set_option linter.unusedVariables false
set_option linter.unusedSimpArgs false
namespace Go.Proofs.Ytjkkolhboohmgaa.binBack
open Go.ChangeShapes Go.WideShapes Go.ChangeAt Go.RowKit Go.Joins
open Go.ChangeMaps (open_string shut_string)
attribute [local go_sem] GW.cell GW.frozen In.eq_true In.le_true In.ne In.ne' In.ne_add In.ne_add' In.lt_add Upto.le_true Upto.le_add Upto.lt_add
attribute [-go_sem] sliced
attribute [local go_sem] sliced_eq

theorem rdr_ext {w w' : World} {S : List Nat} {b : Nat} {st : List UInt8 × Int} (h : Rdr w S b st) (k : Ext w w') : Rdr w' S b st := by
  obtain ⟨hb, hi, v, hO, hB⟩ := h
  exact ⟨hb, hi, v, hO.ext k, Sl.ext hB k⟩
theorem fin {w w8 w9 wa wb wc wd : World} {b : Nat} (h8 : Ext w w8) (hb : w8.heap.size ≤ b) (h9 : Ext w8 w9) (ha : Fr [b] w9 wa) (hb' : Fr [b] wa wb) (hc : Fr [b] wb wc) (hd : Ext wc wd) : Ext w wd := by
  have hs : ∀ c, c ∈ [b] → w.heap.size ≤ c := by intro c hc; simp at hc; subst hc; have := h8.size; omega
  exact (ext_fr (ext_fr (ext_fr (h8.trans h9) ha hs) hb' hs) hc hs).trans hd
set_option maxHeartbeats 4000000 in
set_option maxRecDepth 100000 in
theorem walk (n : Int) (s : ByteArray) (l : List UInt8) (v : Value) (hn : -9223372036854775808 ≤ n ∧ n ≤ 9223372036854775807) (hs : s.size ≤ 1048576) (hl : l.length ≤ 1048576) (w : World) (hv : By w [] v l) : Calls Try.prog 5 #[.int .i64 n, .string s, v] w fun e w' => e = .returned (.bool true) ∧ Ext w w' := by
  obtain ⟨A, cap, rfl, _⟩ := id hv
  have hrest := hide hv
  clear hv
  have n1 : (numB n).length ≤ 10 := by
    unfold numB; split
    · simp
    · exact grp_ten (by omega)
  have n2 : (intB n).length ≤ 10 := grp_ten (by have := zz_in hn; omega)
  have n3 : (textB s.data.toList).length ≤ 10 + s.size := by
    unfold textB
    rw [List.length_append, size_list]
    have := grp_ten (n := s.size) (by omega); omega
  have eI := hide (int_back n hn (textB s.data.toList ++ l))
  have eT := text_back s.data.toList (by rw [size_list]; omega) l
  rw [size_list] at eT
  replace eT := hide eT
  have hlit := World.ownsRow_lit (base := w.heap.size) (e := 5) (size := 1) w #[] 0 (Nat.le_refl _) (by decide) rfl
  by_cases h0 : n < 0
  · have eN : Hid (numB n = []) := by unfold numB; rw [if_pos h0]; exact rfl
    have hcat := hide (show numB n ++ intB n ++ textB s.data.toList ++ l = intB n ++ (textB s.data.toList ++ l) by rw [eN.out]; simp)
    go_enter Try.func5, Try.ntmps5
    go_wp2_with (first | (go_at_call 7; refine (num_c n hn.2 _).mono ?_; rintro ee w1 ⟨v1, rfl, ho1, hx1⟩; have hz1 := hx1.size; simp only [World.size_alloc] at hz1; have hk1 := own_ext hlit hx1) | (at_builtin; refine wpl_app tBytes rfl (.tmp 11) (.tmp 13) rfl rfl hk1 rfl (src_sl Try.underlying23 (Sl.own (S := []) ho1 (by simp)) (bs_one _) (by omega)) (by unfold maxLen; (try simp only [List.length_nil]); omega) (by (try simp only [List.length_nil]); omega) (by (try simp only [List.length_nil]); omega) ?_; intro v2 w2 hp2 hg2 _; replace hp2 := own_app (l := []) hp2; rw [List.nil_append] at hp2; have he2 := ext_grown (((Ext.refl w).alloc _).trans hx1) hg2 (fun k hk => (hlit.lt k hk).1); have hz2 := he2.size) | (go_at_call 9; refine (int_c n hn _).mono ?_; rintro ee w3 ⟨v3, rfl, ho3, hx3⟩; have hz3 := hx3.size; have hk3 := own_ext hp2 hx3) | (at_builtin; refine wpl_app tBytes rfl (.tmp 15) (.tmp 17) rfl rfl hk3 rfl (src_sl Try.underlying23 (Sl.own (S := []) ho3 (by simp)) (bs_one _) (by omega)) (by unfold maxLen; omega) (by omega) (by omega) ?_; intro v4 w4 hp4 hg4 _; replace hp4 := own_app hp4; have he4 := ext_grown (he2.trans hx3) hg4 (fun k hk => (hk3.lt k hk).1); have hz4 := he4.size) | (go_at_call 11; refine (text_c s (by omega) _).mono ?_; rintro ee w5 ⟨v5, rfl, ho5, hx5⟩; have hz5 := hx5.size; have hk5 := own_ext hp4 hx5) | (at_builtin; refine wpl_app tBytes rfl (.tmp 19) (.tmp 21) rfl rfl hk5 rfl (src_sl Try.underlying23 (Sl.own (S := []) ho5 (by simp)) (bs_one _) (by omega)) (by unfold maxLen; (try simp only [List.length_append]); omega) (by (try simp only [List.length_append]); omega) (by (try simp only [List.length_append]); omega) ?_; intro v6 w6 hp6 hg6 _; replace hp6 := own_app hp6; have he6 := ext_grown (he4.trans hx5) hg6 (fun k hk => (hk5.lt k hk).1); have hz6 := he6.size; have hrest6 := Sl.ext hrest.out he6) | (at_builtin; refine wpl_app tBytes rfl (.tmp 23) (.tmp 24) rfl rfl hp6 rfl (src_sl Try.underlying23 hrest6 (bs_one _) (by omega)) (by unfold maxLen; (try simp only [List.length_append]); omega) (by (try simp only [List.length_append]); omega) (by (try simp only [List.length_append]); omega) ?_; intro v8 w8 hp8 hg8 _; replace hp8 := own_app hp8; have he8 := ext_grown he6 hg8 (fun k hk => (hp6.lt k hk).1); have hz8 := he8.size) | (go_at_call 13; refine (newReader_c [] _ _ (by simp only [List.length_append]; omega) _ (Sl.own (S := []) hp8 (by simp)) (by simp)).mono ?_; rintro ee w9 ⟨b, rfl, hb, hR9, hX9⟩; rw [hcat.out] at hR9) | (go_at_call 16; refine (rnum_c _ b _ _ _ hR9).mono ?_; rintro ee wa ⟨rfl, hRa, hFa⟩; rw [eN.out.1]; rw [eN.out.2] at hRa) | (go_at_call 18; refine (rint_c _ b _ _ _ hR9).mono ?_; rintro ee wb ⟨rfl, hRb, hFb⟩; rw [eI.out.1]; rw [eI.out.2] at hRb) | (go_at_call 20; refine (rtext_c _ b _ _ _ _ hRb).mono ?_; rintro ee wc ⟨rfl, hRc, hFc⟩; rw [eT.out.1]; rw [eT.out.2] at hRc) | (go_at_call 6; refine (live_c _).mono ?_; rintro ee wd ⟨rfl, hXd⟩; replace hRc := rdr_ext hRc hXd) | (go_at_call 22; refine (left_c _ b _ _ _ hRc).mono ?_; rintro ee we ⟨rfl, rfl⟩) | (go_at_call 23; refine (err_c _ b _ _ _ hRc).mono ?_; rintro ee we ⟨rfl, rfl⟩))
    go_returns
    exact ⟨by simp, fin he8 hb hX9 (Fr.refl _ _) hFb hFc hXd⟩
  · have eN := hide (num_back n (by omega) hn.2 (intB n ++ (textB s.data.toList ++ l)))
    have hcat := hide (show numB n ++ intB n ++ textB s.data.toList ++ l = numB n ++ (intB n ++ (textB s.data.toList ++ l)) by simp)
    go_enter Try.func5, Try.ntmps5
    go_wp2_with (first | (go_at_call 7; refine (num_c n hn.2 _).mono ?_; rintro ee w1 ⟨v1, rfl, ho1, hx1⟩; have hz1 := hx1.size; simp only [World.size_alloc] at hz1; have hk1 := own_ext hlit hx1) | (at_builtin; refine wpl_app tBytes rfl (.tmp 11) (.tmp 13) rfl rfl hk1 rfl (src_sl Try.underlying23 (Sl.own (S := []) ho1 (by simp)) (bs_one _) (by omega)) (by unfold maxLen; (try simp only [List.length_nil]); omega) (by (try simp only [List.length_nil]); omega) (by (try simp only [List.length_nil]); omega) ?_; intro v2 w2 hp2 hg2 _; replace hp2 := own_app (l := []) hp2; rw [List.nil_append] at hp2; have he2 := ext_grown (((Ext.refl w).alloc _).trans hx1) hg2 (fun k hk => (hlit.lt k hk).1); have hz2 := he2.size) | (go_at_call 9; refine (int_c n hn _).mono ?_; rintro ee w3 ⟨v3, rfl, ho3, hx3⟩; have hz3 := hx3.size; have hk3 := own_ext hp2 hx3) | (at_builtin; refine wpl_app tBytes rfl (.tmp 15) (.tmp 17) rfl rfl hk3 rfl (src_sl Try.underlying23 (Sl.own (S := []) ho3 (by simp)) (bs_one _) (by omega)) (by unfold maxLen; omega) (by omega) (by omega) ?_; intro v4 w4 hp4 hg4 _; replace hp4 := own_app hp4; have he4 := ext_grown (he2.trans hx3) hg4 (fun k hk => (hk3.lt k hk).1); have hz4 := he4.size) | (go_at_call 11; refine (text_c s (by omega) _).mono ?_; rintro ee w5 ⟨v5, rfl, ho5, hx5⟩; have hz5 := hx5.size; have hk5 := own_ext hp4 hx5) | (at_builtin; refine wpl_app tBytes rfl (.tmp 19) (.tmp 21) rfl rfl hk5 rfl (src_sl Try.underlying23 (Sl.own (S := []) ho5 (by simp)) (bs_one _) (by omega)) (by unfold maxLen; (try simp only [List.length_append]); omega) (by (try simp only [List.length_append]); omega) (by (try simp only [List.length_append]); omega) ?_; intro v6 w6 hp6 hg6 _; replace hp6 := own_app hp6; have he6 := ext_grown (he4.trans hx5) hg6 (fun k hk => (hk5.lt k hk).1); have hz6 := he6.size; have hrest6 := Sl.ext hrest.out he6) | (at_builtin; refine wpl_app tBytes rfl (.tmp 23) (.tmp 24) rfl rfl hp6 rfl (src_sl Try.underlying23 hrest6 (bs_one _) (by omega)) (by unfold maxLen; (try simp only [List.length_append]); omega) (by (try simp only [List.length_append]); omega) (by (try simp only [List.length_append]); omega) ?_; intro v8 w8 hp8 hg8 _; replace hp8 := own_app hp8; have he8 := ext_grown he6 hg8 (fun k hk => (hp6.lt k hk).1); have hz8 := he8.size) | (go_at_call 13; refine (newReader_c [] _ _ (by simp only [List.length_append]; omega) _ (Sl.own (S := []) hp8 (by simp)) (by simp)).mono ?_; rintro ee w9 ⟨b, rfl, hb, hR9, hX9⟩; rw [hcat.out] at hR9) | (go_at_call 16; refine (rnum_c _ b _ _ _ hR9).mono ?_; rintro ee wa ⟨rfl, hRa, hFa⟩; rw [eN.out.1]; rw [eN.out.2] at hRa) | (go_at_call 18; refine (rint_c _ b _ _ _ hRa).mono ?_; rintro ee wb ⟨rfl, hRb, hFb⟩; rw [eI.out.1]; rw [eI.out.2] at hRb) | (go_at_call 20; refine (rtext_c _ b _ _ _ _ hRb).mono ?_; rintro ee wc ⟨rfl, hRc, hFc⟩; rw [eT.out.1]; rw [eT.out.2] at hRc) | (go_at_call 6; refine (live_c _).mono ?_; rintro ee wd ⟨rfl, hXd⟩; replace hRc := rdr_ext hRc hXd) | (go_at_call 22; refine (left_c _ b _ _ _ hRc).mono ?_; rintro ee we ⟨rfl, rfl⟩) | (go_at_call 23; refine (err_c _ b _ _ _ hRc).mono ?_; rintro ee we ⟨rfl, rfl⟩))
    go_returns
    exact ⟨by simp, fin he8 hb hX9 hFa hFb hFc hXd⟩
theorem own : ownKnob Try.prog.godebug = none := by kernel_rfl
theorem laidOut : laidOutB Try.prog = true := by kernel_rfl
set_option maxRecDepth 100000 in
theorem lifted (os : Os) (started : os.Started) (H : Type) (enc : TypeId × Value → H) (F : Stop.Interp) :
    ReturnsInHanded {} Try.checked os 5 .any ((Rows.OpenSpec.upto Rows.binBackSpec).pre6 enc Try.prog Try.f5 Rows.binBackUptoRow.domain false) (((Rows.OpenSpec.upto Rows.binBackSpec).at F).post enc Try.prog Try.f5 false true false false) := by
  refine returnsInHanded_of_cond_sized (C := Try.checked) (s := (Rows.OpenSpec.upto Rows.binBackSpec)) rfl own started (by kernel_rfl) Try.func5
    (OpenSpec.witness (enc := enc) (C := Try.checked) (s := (Rows.OpenSpec.upto Rows.binBackSpec)) rfl false ⟨#[], #[.int .i64 0, .string ByteArray.empty, .slice none 0 0], []⟩ 8 (by kernel_rfl) (by kernel_rfl) (by kernel_rfl) (x := ([.lit (.int .i64 0), .lit (.string []), .nil], [], [])) (by kernel_rfl) (by kernel_rfl) (by kernel_rfl)) ?_
  intro W base args ds gs before hval0 hW hcnd hbulk hsz0 _
  have hsz : (DataW.weightsEach Try.prog (Try.f5.params.toList ++ (Rows.OpenSpec.upto Rows.binBackSpec).bare.plain.varTypes Try.prog) (ds ++ gs)).all (· ≤ reachBytes) = true := hsz0
  clear hsz0
  have hval : ∀ (j : Nat) t v, Try.f5.params[j]? = some t → args[j]? = some v → Value.okWide Try.prog W .any base t v := hval0
  have hW' := hW
  obtain ⟨p, q, hA0, hV, rfl, hfz, hnd⟩ := hW
  have hA : DataW.TrodAll enc Try.prog W 0 (fun _ => true) true Try.f5.params.toList args.toList ds p := hA0
  rw [Try.params5] at hA hval hsz
  obtain ⟨v0, vs0, d0, ds0, p0, q0, hargs, rfl, rfl, h0, r0⟩ := trodAll_cons hA
  obtain ⟨v1, vs1, d1, ds1, p1, q1, rfl, rfl, rfl, h1, r1⟩ := trodAll_cons r0
  obtain ⟨v2, vs2, d2, ds2, p2, q2, rfl, rfl, rfl, h2, r2⟩ := trodAll_cons r1
  obtain ⟨rfl, rfl, rfl⟩ := trodAll_nil r2
  obtain rfl : args = #[v0, v1, v2] := by cases args; simp_all
  obtain ⟨rfl, rfl⟩ := trodVars_none hV
  have k0 := h0
  have lt0 : ∀ x ∈ p0, x.block < W.heap.size := by obtain ⟨m, hm⟩ := k0; exact DataW.trod_lt m _ _ _ hm
  obtain ⟨n, rfl, _, _, wn⟩ := open_int Try.underlying3 (hval 0 3 v0 rfl rfl) h0
  have hn := wf_i64 wn
  have k1 := h1
  have lt1 : ∀ x ∈ p1, x.block < W.heap.size := by obtain ⟨m, hm⟩ := k1; exact DataW.trod_lt m _ _ _ hm
  obtain ⟨s, rfl, es, _, ws⟩ := open_string Try.underlying9 (hval 1 9 v1 rfl rfl) h1
  subst es
  have zs : s.size ≤ 140737488351232 := sized_text hsz (j := 1) (t := 9) rfl rfl
  have k2 := h2
  have lt2 : ∀ x ∈ p2, x.block < W.heap.size := by obtain ⟨m, hm⟩ := k2; exact DataW.trod_lt m _ _ _ hm
  obtain ⟨A2, n2, c2, rfl⟩ := okWide_slice Try.underlying23 (hval 2 23 v2 rfl rfl)
  have ⟨m2, hm2⟩ := h2
  obtain ⟨l, ll, hl⟩ := open_bytes Try.underlying23 Try.underlying5 (by kernel_rfl) hm2
  have zl : l.length ≤ 140737488351232 := by rw [ll]; exact sized_len hsz (j := 2) (t := 23) (e := 5) rfl rfl Try.underlying23 (of_decide_eq_true (by kernel_rfl))
  clear hA0 hval0
  have hb : Rows.uptoBulkAll ([d0, .lit (.string s.data.toList), d2] ++ []) ≤ 1048576 := of_decide_eq_true hbulk
  have bs1 : s.size ≤ 1048576 := by simp only [List.append_nil, Rows.uptoBulkAll, Rows.uptoBulk] at hb; rw [← size_list]; omega
  have bs2 : l.length ≤ 1048576 := by have := bulk_len d2; have e : l.length = sliceLen d2 := ll; simp only [List.append_nil, Rows.uptoBulkAll, Rows.uptoBulk] at hb; omega
  refine (walk n s l _ hn bs1 bs2 W hl).mono fun e W' ⟨he, bel⟩ => ?_
  subst he
  exact ⟨_, rfl, _, _, _, [], _, [], hW', trodAll_mk1 (shut_bool Try.underlying4 _), (trodAll_cons_mk (Below.trod laidOut (by kernel_rfl) (of_decide_eq_true (by kernel_rfl)) k0 bel lt0) (trodAll_cons_mk (Below.trod laidOut (by kernel_rfl) (of_decide_eq_true (by kernel_rfl)) k1 bel lt1) (trodAll_cons_mk (Below.trod laidOut (by kernel_rfl) (of_decide_eq_true (by kernel_rfl)) k2 bel lt2) trodAll_mk0))), rfl, bel.frame _, fun h => by cases h⟩

theorem over : Rows.binBackUptoRow.holds Try.pinned (Rows.OpenSpec.upto Rows.binBackSpec) :=
  OpenClaim.holds_of_cond 5 Try.f5 rfl rfl rfl rfl rfl rfl rfl ⟨rfl, rfl, rfl, rfl, rfl⟩ rfl rfl rfl rfl rfl (by kernel_rfl) Try.func5 (by kernel_rfl)
    (of_decide_eq_true (by kernel_rfl)) (by unfold Func.isWrapper; first | (rw [if_pos (by decide +kernel)]; kernel_rfl) | (rw [if_neg (by decide +kernel)]; exact ⟨rfl, rfl⟩))
    (fun os started H enc _ F => lifted os started H enc F)

theorem binBackUpto_holds : Rows.BinBackUptoSaid := over
end Go.Proofs.Ytjkkolhboohmgaa.binBack
