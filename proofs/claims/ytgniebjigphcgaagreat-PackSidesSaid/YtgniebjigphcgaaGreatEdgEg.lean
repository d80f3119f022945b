/-
  A helper of ours: no claim of its own. Layer 10 (edge): what is made of each row's jumps (edge.each).
-/
import Derived.Test.YtgniebjigphcgaaGreatPakA
import Derived.Test.YtgniebjigphcgaaGreatStepC
import Derived.Test.YtgniebjigphcgaaGreatEdgEn
import Derived.Test.YtgniebjigphcgaaGreatArg
import Derived.Test.YtgniebjigphcgaaGreatStepE
set_option linter.unusedVariables false
set_option linter.unusedSimpArgs false
namespace Go.Proofs.YtgniebjigphcgaaGreat
open Go.RowKit
attribute [local go_sem] GW.cell GW.frozen In.eq_true In.le_true In.ne In.ne' In.ne_add In.ne_add' In.lt_add Upto.le_true Upto.le_add Upto.lt_add
theorem begL_pre (f : List Jp) (k : Nat) : (begL (f.take k)).length ≤ (begL f).length := by
  conv => rhs; rw [← List.take_append_drop k f]
  unfold begL
  rw [List.flatMap_append, List.length_append]
  omega
set_option maxHeartbeats 8000000 in
set_option maxRecDepth 100000 in
theorem lifetimes_c (f : List Jp) (hm : mayJ f = true) (h0 : 0 ≤ leV f) (hc : cntJ f ≤ 4096) (v : Value) (w : World) (h : Jw w [] v f) : Calls Tryz.prog 37 #[v] w fun e w' => ∃ v', e = .returned v' ∧ OwnSp w' w.heap.size v' (lifeL f) ∧ Ext w w' := by
  obtain ⟨A, cap, rfl, hl, hmx, hat⟩ := jw_form h
  unfold maxLen at hmx
  replace hat := hide hat
  have hf8 := mayJ_len hm
  have hpre := hide (fun k => pre_ends hm h0 k)
  have hok := hide (mayJ_iff.1 hm).2.1
  have hcn : (begL f).length ≤ 4096 := by unfold cntJ at hc; omega
  obtain ⟨Wb, hWb⟩ : ∃ Wb, Wb = (w.alloc (.cells #[.slice none 0 0] 25)).alloc (.cells #[.slice none 0 0] 59) := ⟨_, rfl⟩
  have hs0 : LS w Wb (w.heap.size + 1) w.heap.size (.slice none 0 0) (.slice none 0 0) [] [] := by
    have a1 := (Ob.new w 25 [.slice none 0 0]).alloc (.cells #[.slice none 0 0] 59)
    have a2 := Ob.new (w.alloc (.cells #[.slice none 0 0] 25)) 59 [.slice none 0 0]
    rw [World.size_alloc] at a2
    rw [hWb]
    exact ⟨a2, a1, OwnO.nil _ _ _ _, World.ownsRow_nil _ _ _ _, ((Ext.refl w).alloc _).alloc _, by omega, Nat.le_refl _⟩
  obtain ⟨bo, hbo⟩ : ∃ bo, w.heap.size + 1 = bo := ⟨_, rfl⟩
  obtain ⟨bm, hbm⟩ : ∃ bm, w.heap.size = bm := ⟨_, rfl⟩
  have hs1 := hs0
  rw [hbo] at hs1
  replace hs0 := hide hs0
  have hs2 : LS w Wb bo bm (.slice none 0 0) (.slice none 0 0) [] [] := by rw [← hbm]; exact hs1
  replace hs2 := hide hs2
  replace hbo := hide hbo
  replace hbm := hide hbm
  replace hWb := hide hWb
  clear h hs0 hs1 hm h0 hc
  go_enter Tryz.func37, Tryz.ntmps37
  go_wp2_with fail
  rw [← hWb.out, hbo.out, hbm.out]
  clear hWb hbo hbm
  go_loopg [11] f.length (fun gh i wr => ∃ (k : Nat) (uo um : Value), i = .int .i64 k ∧ k + gh = f.length ∧ LS w wr bo bm uo um ((begL (f.take k)).drop (endL (f.take k)).length) (madeL (begL (f.take k)) (endL (f.take k))))
  case atStart => exact ⟨0, _, _, rfl, by omega, hs2.out⟩
  case round =>
    clear hs2
    obtain ⟨k, uo, um, rfl, hk, hs⟩ := hrel
    obtain ⟨wo, hwo⟩ : ∃ wo, wo = wr := ⟨_, rfl⟩
    subst hwo
    have hX := hs.X
    have hzX := hX.size
    by_cases hlt : k < f.length
    · obtain ⟨⟨a, n⟩, hx⟩ : ∃ x, f[k]? = some x := ⟨_, List.getElem?_eq_getElem hlt⟩
      obtain ⟨b, o, rfl, -, hb, c0, c1⟩ := hat.out k _ hx
      have k0 := jcell_later hX c0
      have k1 := jcell_later hX c1
      have hbr : b < _ := block_lt_of_cell k0
      simp only at k0 k1
      have hokx := hok.out _ (List.mem_of_getElem? hx)
      unfold okJ at hokx
      rw [decide_eq_true_iff] at hokx
      simp only at hokx
      have et : f.take (k + 1) = f.take k ++ [(a, n)] := by rw [List.take_add_one, hx]; rfl
      have p1 := hpre.out k
      have p2 := hpre.out (k + 1)
      have p3 := begL_pre f (k + 1)
      have hbs := begL_snoc (f.take k) (a, n)
      have hes := endL_snoc (f.take k) (a, n)
      rw [← et] at hbs hes
      simp only at hbs hes
      have hbl := congrArg List.length hbs
      have hel := congrArg List.length hes
      rw [List.length_append, List.length_replicate] at hbl hel
      have hnx := hide (And.intro hbs hes)
      have hch := hide (fun w' (hXw : Ext wo w') => change_c w w' bo bm uo um a n (begL (f.take k)) (endL (f.take k)) (hs.ext hXw) p1 (by omega) (by omega) (by omega) (by omega) (by omega))
      haveI : In b _ := ⟨hbr⟩
      clear c0 c1 hx hokx et hbs hes hbl hel hs p1 p2 p3
      go_wp2_with (go_at_call 71; refine (hch.out _ (by repeat (first | exact Ext.refl _ | refine Ext.alloc ?_ _ | refine Ext.setCell ?_ (by simp) _))).mono ?_; rintro ee w3 ⟨⟨vv, rfl⟩, uo2, um2, hs3⟩)
      go_roundg (f.length - (k + 1))
      case measure => omega
      case rel => exact ⟨k + 1, uo2, um2, by go_num, by omega, by rw [hnx.out.1, hnx.out.2]; exact hs3⟩
    · have hge : (f.length : Int) ≤ k := by omega
      rw [List.take_of_length_le (by omega)] at hs
      have p1 := hpre.out f.length
      rw [List.take_of_length_le (Nat.le_refl _)] at p1
      have hdl : ((begL f).drop (endL f).length).length = (begL f).length - (endL f).length := List.length_drop
      obtain ⟨C, ccap, rfl, -, -⟩ := hs.ho.form
      have q1 := hs.oo.cell 0 rfl
      have hlo := hs.oo.lt
      obtain ⟨m, hmm⟩ : ∃ m, m = ((begL f).drop (endL f).length).length := ⟨_, rfl⟩
      rw [← hmm] at hs q1
      have hch := hide (fun w' (hXw : Ext wo w') => change_c w w' bo bm (.slice C m ccap) um 1125899906842624 (-(m : Int)) (begL f) (endL f) (hs.ext hXw) p1 (by omega) (by omega) (by omega) (by omega) (by omega))
      have hdone := hide (show madeL (begL f ++ List.replicate (-(m : Int)).toNat 1125899906842624) (endL f ++ List.replicate (- -(m : Int)).toNat 1125899906842624) = lifeL f from by
        rw [show (-(m : Int)).toNat = 0 by omega, show (- -(m : Int)).toNat = (begL f).length - (endL f).length by omega, List.replicate_zero, List.append_nil]
        exact life_done _ _ p1)
      have hml : m ≤ 4096 := by omega
      haveI : In bo _ := ⟨hlo⟩
      clear hs p1 hdl hmm
      go_wp2_with (go_at_call 71; refine (hch.out _ (Ext.refl _)).mono ?_; rintro ee w3 ⟨⟨vv, rfl⟩, uo2, um2, hs3⟩; rw [hdone.out] at hs3; have qm := hs3.om.cell 0 rfl; have hlm := hs3.om.lt; obtain ⟨C3, c3, q3⟩ := own_form hs3.hm; subst q3; replace hs3 := hide hs3; haveI : In bm w3 := ⟨hlm⟩)
      go_returns
      exact ⟨_, rfl, hs3.out.hm, hs3.out.X⟩
end Go.Proofs.YtgniebjigphcgaaGreat
set_option linter.unusedVariables false
set_option linter.unusedSimpArgs false
namespace Go.Proofs.YtgniebjigphcgaaGreat
open Go.RowKit
attribute [local go_sem] GW.cell GW.frozen In.eq_true In.le_true In.ne In.ne' In.ne_add In.ne_add' In.lt_add Upto.le_true Upto.le_add Upto.lt_add
theorem cntJ_pos (f : List Jp) : 0 ≤ cntJ f := by unfold cntJ; omega
set_option maxHeartbeats 8000000 in
set_option maxRecDepth 100000 in
theorem count_c (f : List Jp) (hm : mayJ f = true) (v : Value) (w : World) (h : Jw w [] v f) : Calls Tryz.prog 36 #[v] w fun e w' => e = .returned (.int .i64 (cntJ f)) ∧ Ext w w' := by
  obtain ⟨A, cap, rfl, hl, hmx, hat⟩ := jw_form h
  unfold maxLen at hmx
  replace hat := hide hat
  have hf8 := mayJ_len hm
  have hok := hide (mayJ_iff.1 hm).2.1
  have hle := hide (fun k => cntJ_le (f := f.take k) (fun j hj => by
    have := (mayJ_iff.1 hm).2.1 j (List.mem_of_mem_take hj)
    unfold okJ at this
    rw [decide_eq_true_iff] at this
    omega))
  clear h hm
  go_enter Tryz.func36, Tryz.ntmps36
  go_wp2_with fail
  go_loopg [3, 8] f.length (fun gh s i wr => ∃ (k : Nat) (z : Int), i = .int .i64 k ∧ k + gh = f.length ∧ s = .int .i64 z ∧ Hid (z = cntJ (f.take k)) ∧ Ext w wr)
  case atStart => exact ⟨0, 0, rfl, by omega, rfl, rfl, Ext.refl w⟩
  case round =>
    obtain ⟨k, z, rfl, hk, rfl, hz, hX⟩ := hrel
    by_cases hlt : k < f.length
    · obtain ⟨⟨a, n⟩, hx⟩ : ∃ x, f[k]? = some x := ⟨_, List.getElem?_eq_getElem hlt⟩
      obtain ⟨b, o, rfl, -, hb, c0, c1⟩ := hat.out k _ hx
      have k0 := jcell_later hX c0
      have k1 := jcell_later hX c1
      have hbr : b < wr.heap.size := block_lt_of_cell k0
      simp only at k0 k1
      have hokx := hok.out _ (List.mem_of_getElem? hx)
      unfold okJ at hokx
      rw [decide_eq_true_iff] at hokx
      simp only at hokx
      have hnx : Hid (z + max n 0 = cntJ (f.take (k + 1))) := by
        show _ = _
        rw [List.take_add_one, hx, Option.toList_some, cntJ_snoc, hz.out]
      have hz0 : 0 ≤ z := by rw [hz.out]; exact cntJ_pos _
      have hz1 : z ≤ 1073741824 := by
        have h1 := hle.out k
        have h2 : (f.take k).length ≤ 1024 := by rw [List.length_take]; omega
        rw [← hz.out] at h1
        omega
      have hn1 : n ≤ 1048576 := hokx.2.2.2.1
      have hn2 : -1048576 ≤ n := hokx.2.2.2.2
      haveI : In b wr := ⟨hbr⟩
      clear c0 c1 hx hokx
      by_cases hn : 0 ≤ n
      · have hmx2 : max n 0 = n := by omega
        rw [hmx2] at hnx
        have d1 : decide (n < 0) = false := by rw [decide_eq_false_iff_not]; omega
        have d2 : ¬ n < 0 := by omega
        have hmx3 : max 0 n = n := by omega
        go_wp2_with fail
        go_roundg (f.length - (k + 1))
        case measure => omega
        case rel => exact ⟨k + 1, z + n, by go_num, by omega, by first | rfl | simp [hmx2, hmx3], hnx, by repeat (first | assumption | refine Ext.alloc ?_ _)⟩
      · have hmx2 : max n 0 = 0 := by omega
        rw [hmx2, Int.add_zero] at hnx
        have hmx3 : max 0 n = 0 := by omega
        have d1 : decide (n < 0) = true := by rw [decide_eq_true_iff]; omega
        have d2 : n < 0 := by omega
        have hz2 : z + 0 = z := by omega
        go_wp2_with fail
        go_roundg (f.length - (k + 1))
        case measure => omega
        case rel => exact ⟨k + 1, z, by go_num, by omega, by first | rfl | simp [hmx2, hmx3], hnx, by repeat (first | assumption | refine Ext.alloc ?_ _)⟩
    · have hge : (f.length : Int) ≤ k := by omega
      have hzz := hz.out
      rw [List.take_of_length_le (by omega)] at hzz
      replace hzz := hide hzz
      go_wp2_with fail
      go_returns
      exact ⟨by rw [hzz.out]; rfl, hX⟩
set_option maxHeartbeats 4000000 in
set_option maxRecDepth 100000 in
theorem spans_c (f : List Jp) (v : Value) (w : World) (h : Jw w [] v f) : Calls Tryz.prog 12 #[v] w fun e w' => ∃ v', e = .returned (.tuple #[v', .int .i64 (spE f)]) ∧ OwnSp w' w.heap.size v' (spR f) ∧ Ext w w' := by
  have h1 := hide (fun w' (hX : Ext w w') => stepMay_c f v w' (Sl.ext h hX))
  have h2 := hide (fun w' (hX : Ext w w') => stepLeast_c f v w' (Sl.ext h hX))
  have h' := hide h
  obtain ⟨A, cap, rfl, -, -, -⟩ := jw_form h
  obtain ⟨E, hE⟩ : ∃ E, E = spE f := ⟨_, rfl⟩
  obtain ⟨R, hR⟩ : ∃ R, R = spR f := ⟨_, rfl⟩
  rw [← hE, ← hR]
  unfold spR at hR
  rw [← hE] at hR
  unfold spE at hE
  clear h
  cases ha : mayJ f
  · rw [ha, if_neg (by decide)] at hE
    rw [ha] at h1
    subst hE
    replace hR : R = [] := by rw [hR, if_neg (by decide)]
    subst hR
    go_enter Tryz.func12, Tryz.ntmps12
    go_wp2_with (go_at_call 34; (with_reducible refine seq_gw (h1.out _ (Ext.refl _)) ?_); intro g)
    go_returns
    exact ⟨_, rfl, World.ownsRow_nil _ _ _ _, g.grown⟩
  rw [ha, if_pos rfl] at hE
  rw [ha] at h1
  obtain ⟨z, hz⟩ : ∃ z, z = leV f := ⟨_, rfl⟩
  rw [← hz] at hE h2
  by_cases hn : z < 0
  · rw [if_pos hn] at hE
    subst hE
    replace hR : R = [] := by rw [hR, if_neg (by decide)]
    subst hR
    replace hz := hide hz
    go_enter Tryz.func12, Tryz.ntmps12
    go_wp2_with (first | (go_at_call 34; (with_reducible refine seq_gw (h1.out _ (Ext.refl _)) ?_); intro g) | (go_at_call 35; (with_reducible refine seq_gw' (h2.out _ g.grown) ?_); intro g2))
    go_returns
    exact ⟨_, rfl, World.ownsRow_nil _ _ _ _, g2.grown⟩
  rw [if_neg hn] at hE
  have h3 := hide (fun w' (hX : Ext w w') => count_c f ha (.slice A f.length cap) w' (Sl.ext h'.out hX))
  obtain ⟨c, hc⟩ : ∃ c, c = cntJ f := ⟨_, rfl⟩
  rw [← hc] at hE h3
  by_cases hb : 4096 < c
  · rw [if_pos hb] at hE
    subst hE
    replace hR : R = [] := by rw [hR, if_neg (by decide)]
    subst hR
    replace hz := hide hz
    replace hc := hide hc
    go_enter Tryz.func12, Tryz.ntmps12
    go_wp2_with (first | (go_at_call 34; (with_reducible refine seq_gw (h1.out _ (Ext.refl _)) ?_); intro g) | (go_at_call 35; (with_reducible refine seq_gw' (h2.out _ g.grown) ?_); intro g2) | (go_at_call 36; (with_reducible refine seq_gw' (h3.out _ g2.grown) ?_); intro g3))
    go_returns
    exact ⟨_, rfl, World.ownsRow_nil _ _ _ _, g3.grown⟩
  · rw [if_neg hb] at hE
    subst hE
    rw [if_pos rfl] at hR
    have h4 := hide (fun w' (hX : Ext w w') => lifetimes_c f ha (by omega) (by omega) (.slice A f.length cap) w' (Sl.ext h'.out hX))
    rw [← hR] at h4
    replace hz := hide hz
    replace hc := hide hc
    replace hR := hide hR
    go_enter Tryz.func12, Tryz.ntmps12
    go_wp2_with (first | (go_at_call 34; (with_reducible refine seq_gw (h1.out _ (Ext.refl _)) ?_); intro g) | (go_at_call 35; (with_reducible refine seq_gw' (h2.out _ g.grown) ?_); intro g2) | (go_at_call 36; (with_reducible refine seq_gw' (h3.out _ g2.grown) ?_); intro g3) | (go_at_call 37; refine (h4.out _ g3.grown).mono ?_; rintro ee w4 ⟨v4, rfl, ho4, hx4⟩))
    go_returns
    exact ⟨_, rfl, own_base ho4 g3.grown.size, g3.grown.trans hx4⟩
end Go.Proofs.YtgniebjigphcgaaGreat
set_option linter.unusedVariables false
set_option linter.unusedSimpArgs false
namespace Go.Proofs.YtgniebjigphcgaaGreat
open Go.RowKit
attribute [local go_sem] GW.cell GW.frozen In.eq_true In.le_true In.ne In.ne' In.ne_add In.ne_add' In.lt_add Upto.le_true Upto.le_add Upto.lt_add Oper.semAt_some wide_depth wide_fn
def ngOp (f : List Jp) : Int × List Jp := (ngE f, ngR f)
theorem ngOp_len (f : List Jp) : (ngOp f).2.length ≤ 1024 := by
  unfold ngOp ngR
  simp only
  split
  · rename_i h; unfold ngL; rw [List.length_map]; exact mayJ_len h
  · simp
end Go.Proofs.YtgniebjigphcgaaGreat
