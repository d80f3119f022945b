/-
  A helper of ours: no claim of its own. Layer 10 (edge): the other sign, what is ahead of a place, what is from one on, by the code.
-/
import Derived.Test.YtobmjcehgpmfgaaGreatEdgB
import Derived.Lib.AppendZerosOnto
import Derived.Lib.LazyBuf
import Derived.WalkLawsBesides
import Derived.Test.YtobmjcehgpmfgaaGreatEdgN
import Derived.Test.YtobmjcehgpmfgaaGreatEdgM
import Derived.Test.YtobmjcehgpmfgaaGreatFolC
import Derived.Test.YtobmjcehgpmfgaaGreatEdgEn
import Derived.Test.YtobmjcehgpmfgaaGreatStepU
import Derived.Test.YtobmjcehgpmfgaaGreatBagH
set_option linter.unusedVariables false
set_option linter.unusedSimpArgs false
namespace Go.Proofs.YtobmjcehgpmfgaaGreat
open Go.RowKit
attribute [local go_sem] GW.cell GW.frozen In.eq_true In.le_true In.ne In.ne' In.ne_add In.ne_add' In.lt_add Upto.le_true Upto.le_add Upto.lt_add
set_option maxHeartbeats 2000000 in
set_option maxRecDepth 100000 in
theorem growE_c (n : Nat) (hn : n ≤ 8192) (w : World) : Calls Tryz.prog 181 #[.slice none 0 0, .int .i64 n] w fun e w' => ∃ v', e = .returned v' ∧ OwnE w' w.heap.size v' [] ∧ Ext w w' := by
  by_cases h0 : n = 0
  · subst h0
    go_enter Tryz.func181, Tryz.ntmps181
    go_wp2_with fail
    go_returns
    exact ⟨_, rfl, World.ownsRow_nil _ _ _ _, Ext.refl w⟩
  · have hpos : (0 : Int) < n := by omega
    obtain ⟨ht, ⟨i, hi, hz, hsize, hby⟩, hzs, hsz⟩ := tEdg
    have hfit : Builtin.nextslicecap n 0 * i.bytes ≤ 281474976710656 := growslice_fits (by omega) (by rw [hby]; omega)
    have hrz : ∀ ty, (Builtin.append_ #[31, 3] ty #[.slice none 0 0, .int .i64 n]).run Tryz.prog w =
        .ok (.slice (some ⟨w.heap.size, 0, none⟩) n (grownCap w n 0 115)) (w.drew.alloc (.cells (Builtin.zeroCells (Value.agg #[.slice none 0 0, .int .i64 0, .int .i64 0]).cells n ++ Builtin.zeroCells (Value.agg #[.slice none 0 0, .int .i64 0, .int .i64 0]).cells (grownCap w n 0 115 - n)) 115)) := fun ty => by
      have h := Lib.run_append_grow_zeros (P := Tryz.prog) w 31 3 ty 115 i _ .i64 .i64 ht Tryz.underlying3 hi hz none 0 0 [] (run_firstCells_none w.drew i.size 0 0 0) n (by omega) (by omega) (by omega) (by omega) (by rw [hby]; omega) (by simpa using hfit)
      simpa using h
    have hGn : n ≤ grownCap w n 0 115 := grownCap_ge w _ _ _
    have hGm : grownCap w n 0 115 ≤ maxLen := grownCap_le_maxLen w n 0 _ (by unfold maxLen; omega)
    generalize grownCap w n 0 115 = G at *
    have hgI : (0 : Int) ≤ G := by omega
    have hGm' := hGm
    unfold maxLen at hGm'
    clear hfit ht hi hz hsize hby
    go_enter Tryz.func181, Tryz.ntmps181
    go_wp2_with (at_builtin; refine Lib.wpList_append_run _ rfl _ _ _ _ rfl _ _ rfl rfl _ _ (hrz _) ?_)
    go_returns
    refine ⟨_, rfl, ⟨by simp [ec], .inr ⟨w.heap.size, G, _, rfl, Nat.le_refl _, heap_alloc_new w.drew _, Nat.zero_le _, hGm, ?_, by simp [ec]⟩⟩, (Ext.refl w).drew.alloc _⟩
    simp only [Array.size_append, size_zeroCells]
    show n * 3 + (G - n) * 3 = G * 3
    omega
theorem growE_sum (l m : List Ve) (h8 : l.length + m.length ≤ 8192) (w : World) : Calls Tryz.prog 181 #[.slice none 0 0, .int .i64 ((l.length : Int) + m.length)] w fun e w' => ∃ v', e = .returned v' ∧ OwnE w' w.heap.size v' [] ∧ Ext w w' := by
  have h := growE_c (l.length + m.length) h8 w
  rwa [Int.natCast_add] at h
set_option maxHeartbeats 4000000 in
set_option maxRecDepth 100000 in
theorem concatE_c (l m : List Ve) (v u : Value) (b : Nat) (w : World) (hl : Ew w [] v l) (hm : Ew w [] u m) (h8 : l.length + m.length ≤ 8192) (hb : Ob w b 31 [v, u]) : Calls Tryz.prog 111 #[.slice (some ⟨b, 0, none⟩) 2 2] w fun e w' => ∃ v', e = .returned v' ∧ OwnE w' w.heap.size v' (l ++ m) ∧ Ext w w' := by
  have hgr := hide (fun w => growE_sum l m h8 w)
  obtain ⟨A, cap, rfl, hlc, hlm, -⟩ := ew_form hl
  obtain ⟨B, cap2, rfl, hmc, hmm, -⟩ := ew_form hm
  unfold maxLen at hlm hmm
  have hb' := hide hb
  have q0 := hb.cell 0 rfl
  have q1 := hb.cell 1 rfl
  have hbl := hb.lt
  replace hl := hide hl
  replace hm := hide hm
  clear hb
  go_enter Tryz.func111, Tryz.ntmps111
  go_wp2_with fail
  go_loopg [3, 11] 2 (fun g z i wr => wr = w ∧ ((g = 2 ∧ i = .int .i64 0 ∧ z = .int .i64 0) ∨ (g = 1 ∧ i = .int .i64 1 ∧ z = .int .i64 l.length) ∨ (g = 0 ∧ i = .int .i64 2 ∧ z = .int .i64 ((l.length : Int) + m.length))))
  case atStart => exact ⟨rfl, .inl ⟨rfl, rfl, rfl⟩⟩
  case round =>
    obtain ⟨rfl, ⟨rfl, rfl, rfl⟩ | ⟨rfl, rfl, rfl⟩ | ⟨rfl, rfl, rfl⟩⟩ := hrel
    · go_wp2_with fail
      go_roundg 1
      case measure => omega
      case rel => exact ⟨rfl, .inr (.inl ⟨rfl, rfl, by go_num⟩)⟩
    · go_wp2_with fail
      go_roundg 0
      case measure => omega
      case rel => exact ⟨rfl, .inr (.inr ⟨rfl, rfl, by go_num⟩)⟩
    · go_wp2_with (go_at_call 181; refine (hgr.out _).mono ?_; rintro ee w1 ⟨v1, rfl, ho1, hx1⟩)
      clear q0 q1 hbl hgr
      go_loopg [6, 27] 2 (fun g vv i wr2 => ∃ acc, OwnE wr2 wr.heap.size vv acc ∧ Ext wr wr2 ∧ ((g = 2 ∧ i = .int .i64 0 ∧ acc = []) ∨ (g = 1 ∧ i = .int .i64 1 ∧ acc = l) ∨ (g = 0 ∧ i = .int .i64 2 ∧ acc = l ++ m)))
      case atStart => exact ⟨[], ho1, hx1, .inl ⟨rfl, rfl, rfl⟩⟩
      case round =>
        obtain ⟨acc, ho, hX, ⟨rfl, rfl, rfl⟩ | ⟨rfl, rfl, rfl⟩ | ⟨rfl, rfl, rfl⟩⟩ := hrel
        · have hbx := hb'.out.ext hX
          have q0 := hbx.cell 0 rfl
          have hzX := hX.size
          go_wp2_with (at_builtin; (refine wpl_app tEdg rfl (.tmp 31) (.tmp 32) rfl rfl ho rfl (src_sl Tryz.underlying31 (Sl.ext hl.out.1 hX) (Ew.one hl.out) (by omega)) (by unfold maxLen; simp only [List.length_nil]; omega) (by simp only [List.length_nil]; omega) hzX ?_; intro v2 w2 ho2 hg2 _))
          go_roundg 1
          case measure => omega
          case rel => exact ⟨l, (by have := own_appE (L := []) ho2; simpa using this), ext_grown hX hg2 (fun k hk => (ho.lt k hk).1), .inr (.inl ⟨rfl, rfl, rfl⟩)⟩
        · have hbx := hb'.out.ext hX
          have q1 := hbx.cell 1 rfl
          have hzX := hX.size
          go_wp2_with (at_builtin; (refine wpl_app tEdg rfl (.tmp 31) (.tmp 32) rfl rfl ho rfl (src_sl Tryz.underlying31 (Sl.ext hm.out.1 hX) (Ew.one hm.out) (by omega)) (by unfold maxLen; omega) (by omega) hzX ?_; intro v2 w2 ho2 hg2 _))
          go_roundg 0
          case measure => omega
          case rel => exact ⟨acc ++ m, own_appE ho2, ext_grown hX hg2 (fun k hk => (ho.lt k hk).1), .inr (.inr ⟨rfl, rfl, rfl⟩)⟩
        · go_wp2_with fail
          go_returns
          exact ⟨_, rfl, ho, hX⟩
end Go.Proofs.YtobmjcehgpmfgaaGreat
set_option linter.unusedVariables false
set_option linter.unusedSimpArgs false
namespace Go.Proofs.YtobmjcehgpmfgaaGreat
open Go.RowKit
attribute [local go_sem] GW.cell GW.frozen In.eq_true In.le_true In.ne In.ne' In.ne_add In.ne_add' In.lt_add Upto.le_true Upto.le_add Upto.lt_add
theorem jmps_le (l : List Ed) (r : List Vl) : (jmps l r).length ≤ l.length := by unfold jmps; rw [List.length_map]; exact List.length_filter_le _ _
theorem mayE_len {l : List Ed} (h : mayE l = true) : l.length ≤ 4096 := (mayE_iff.1 h).1
theorem mayE_jl {l : List Ed} (h : mayE l = true) (r : List Vl) : (jmps l r).length ≤ 1024 := by
  obtain ⟨-, h2, h3⟩ := mayE_iff.1 h
  obtain ⟨-, k2⟩ := rowsL_ok h2.1
  by_cases hr : r ∈ rowsL l
  · have := h3 (r, jmps l r) (by rw [grp_eq h2]; exact List.mem_map.2 ⟨r, hr, rfl⟩)
    exact mayJ_len this
  · have : jmps l r = [] := by
      apply List.eq_nil_iff_forall_not_mem.2
      intro j hj
      exact hr ((k2 r).2 ⟨_, jmps_mem.1 hj, rfl⟩)
    rw [this]; simp
theorem lit2 (u : Value) (r : List Vl) (j k : Jp) (w : World) (h : Rw w [] u r) : Ew (w.alloc (.cells #[u, .int .i64 j.1, .int .i64 j.2, u, .int .i64 k.1, .int .i64 k.2] 115)) [] (.slice (some ⟨w.heap.size, 0, none⟩) 2 2) [(u, r, j), (u, r, k)] := by
  refine ⟨Sl.own (World.ownsRow_lit (base := w.heap.size) (e := 115) (size := 3) w #[u, .int .i64 j.1, .int .i64 j.2, u, .int .i64 k.1, .int .i64 k.2] 2 (Nat.le_refl _) (by decide) rfl) (by simp), fun p hp => ?_⟩
  simp only [List.mem_cons, List.not_mem_nil, or_false] at hp
  rcases hp with rfl | rfl <;> exact Sl.ext h ((Ext.refl w).alloc _)
/-- A row once, from one tick to another. -/
def ofE (r : List Vl) (f t : Int) : Int := if mayR r then (if smayB f t then neE [(r, (f, 1)), (r, (t, -1))] else 14) else 2
def ofR (r : List Vl) (f t : Int) : List Ed := if ofE r f t = 0 then neR [(r, (f, 1)), (r, (t, -1))] else []
theorem neR_bad {l : List Ed} (h : neE l ≠ 0) : neR l = [] := by unfold neR; rw [if_neg h]
/-- A sum. -/
def adE (a b : List Ed) : Int := if mayE a && mayE b then neE (a ++ b) else 2
def adR (a b : List Ed) : List Ed := if adE a b = 0 then neR (a ++ b) else []
set_option maxHeartbeats 4000000 in
set_option maxRecDepth 100000 in
theorem edgeAdd_c (L M : List Ve) (v u : Value) (w : World) (hl : Ew w [] v L) (hm : Ew w [] u M) : Calls Tryz.prog 47 #[v, u] w fun e w' => ∃ v' N, e = .returned (.tuple #[v', .int .i64 (adE (eds L) (eds M))]) ∧ eds N = adR (eds L) (eds M) ∧ OwnEr w' w.heap.size v' N ∧ Ext w w' := by
  have h1 := hide (fun w' (hX : Ext w w') => edgeMay_c L v w' (hl.ext hX))
  have h2 := hide (fun w' (hX : Ext w w') => edgeMay_c M u w' (hm.ext hX))
  have hX0 := hide (Ext.refl w)
  have hl' := hide hl
  have hm' := hide hm
  obtain ⟨A, cap, rfl, hlc, hlm, -⟩ := ew_form hl
  obtain ⟨B, cap2, rfl, hmc, hmm, -⟩ := ew_form hm
  obtain ⟨E, hE⟩ : ∃ E, E = adE (eds L) (eds M) := ⟨_, rfl⟩
  obtain ⟨R, hR⟩ : ∃ R, R = adR (eds L) (eds M) := ⟨_, rfl⟩
  rw [← hE, ← hR]
  unfold adR at hR
  rw [← hE] at hR
  unfold adE at hE
  clear hl hm
  cases ha : mayE (eds L)
  · rw [ha, Bool.false_and, if_neg (by decide)] at hE
    rw [ha] at h1
    subst hE
    replace hR : R = [] := by rw [hR, if_neg (by decide)]
    replace hR := hide hR
    go_enter Tryz.func47, Tryz.ntmps47
    go_wp2_with (go_at_call 70; (with_reducible refine seq_gw (h1.out _ hX0.out) ?_); intro g)
    go_returns
    exact ⟨_, [], rfl, by rw [hR.out]; rfl, OwnEr.nil _ _, g.grown⟩
  cases hb : mayE (eds M)
  · rw [ha, hb, Bool.true_and, if_neg (by decide)] at hE
    rw [ha] at h1
    rw [hb] at h2
    subst hE
    replace hR : R = [] := by rw [hR, if_neg (by decide)]
    replace hR := hide hR
    go_enter Tryz.func47, Tryz.ntmps47
    go_wp2_with (first | (go_at_call 70; (with_reducible refine seq_gw (h1.out _ hX0.out) ?_); intro g) | (go_at_call 70; (with_reducible refine seq_gw' (h2.out _ g.grown) ?_); intro g2))
    go_returns
    exact ⟨_, [], rfl, by rw [hR.out]; rfl, OwnEr.nil _ _, g2.grown⟩
  rw [ha, hb, Bool.true_and, if_pos rfl] at hE
  rw [ha] at h1
  rw [hb] at h2
  have hR2 : Hid (R = neR (eds L ++ eds M)) := by
    show R = _
    rw [hR]
    split
    · rfl
    · rename_i h; rw [hE] at h; rw [neR_bad h]
  have hll : L.length ≤ 4096 := by have := mayE_len ha; simpa [eds] using this
  have hml : M.length ≤ 4096 := by have := mayE_len hb; simpa [eds] using this
  have hjl : Hid (∀ r, (jmps (eds (L ++ M)) r).length ≤ 8192) := fun r => by
    rw [show eds (L ++ M) = eds L ++ eds M by simp [eds], jmps_append, List.length_append]
    have := mayE_jl ha r
    have := mayE_jl hb r
    omega
  have heq : Hid (eds (L ++ M) = eds L ++ eds M) := by show _ = _; simp [eds]
  replace hE := hide hE
  clear hR ha hb
  go_enter Tryz.func47, Tryz.ntmps47
  go_wp2_with (first | (go_at_call 70; (with_reducible refine seq_gw (h1.out _ hX0.out) ?_); intro g) | (go_at_call 70; (with_reducible refine seq_gw' (h2.out _ g.grown) ?_); intro g2) | (go_at_call 111; refine (concatE_c L M _ _ _ _ (hl'.out.ext (g2.grown.alloc _)) (hm'.out.ext (g2.grown.alloc _)) (by omega) (Ob.new g2.val 31 [_, _])).mono ?_; rintro ee w3 ⟨v3, rfl, ho3, hX3⟩; have hX4 := (g2.grown.alloc (.cells #[.slice A L.length cap, .slice B M.length cap2] 31)).trans hX3) | (go_at_call 107; refine (edgeNorm_c (L ++ M) (by rw [List.length_append]; omega) hjl.out _ _ ⟨Sl.own ho3 (by simp), fun p hp => by rcases List.mem_append.1 hp with hp | hp; exact Sl.ext (hl'.out.2 p hp) hX4; exact Sl.ext (hm'.out.2 p hp) hX4⟩).mono ?_; rintro ee w5 ⟨v5, N, rfl, hN, ho5, hX5⟩))
  go_returns
  exact ⟨_, N, by rw [hE.out]; rfl, by rw [hN, hR2.out, heq.out], ho5.lower hX4.size, hX4.trans hX5⟩
end Go.Proofs.YtobmjcehgpmfgaaGreat
set_option linter.unusedVariables false
set_option linter.unusedSimpArgs false
namespace Go.Proofs.YtobmjcehgpmfgaaGreat
open Go.RowKit
attribute [local go_sem] GW.cell GW.frozen In.eq_true In.le_true In.ne In.ne' In.ne_add In.ne_add' In.lt_add Upto.le_true Upto.le_add Upto.lt_add Oper.semAt_some wide_depth wide_fn
def ngOp (f : List Jp) : Int × List Jp := (ngE f, ngR f)
end Go.Proofs.YtobmjcehgpmfgaaGreat
set_option linter.unusedVariables false
set_option linter.unusedSimpArgs false
namespace Go.Proofs.YtobmjcehgpmfgaaGreat
open Go.RowKit
attribute [local go_sem] GW.cell GW.frozen In.eq_true In.le_true In.ne In.ne' In.ne_add In.ne_add' In.lt_add Upto.le_true Upto.le_add Upto.lt_add Oper.semAt_some wide_depth wide_fn
def ahOp (t : Int) (f : List Jp) : Int × List Jp := (ahE f t, ahR f t)
end Go.Proofs.YtobmjcehgpmfgaaGreat
set_option linter.unusedVariables false
set_option linter.unusedSimpArgs false
namespace Go.Proofs.YtobmjcehgpmfgaaGreat
open Go.RowKit
attribute [local go_sem] GW.cell GW.frozen In.eq_true In.le_true In.ne In.ne' In.ne_add In.ne_add' In.lt_add Upto.le_true Upto.le_add Upto.lt_add Oper.semAt_some wide_depth wide_fn
def reOp (t : Int) (f : List Jp) : Int × List Jp := (reE f t, reR f t)
end Go.Proofs.YtobmjcehgpmfgaaGreat
set_option linter.unusedVariables false
set_option linter.unusedSimpArgs false
namespace Go.Proofs.YtobmjcehgpmfgaaGreat
open Go.RowKit
attribute [local go_sem] GW.cell GW.frozen In.eq_true In.le_true In.ne In.ne' In.ne_add In.ne_add' In.lt_add Upto.le_true Upto.le_add Upto.lt_add
/-- What is made of each row's jumps, of edges in form. -/
def mpE (op : List Jp → Int × List Jp) (l : List Ed) : Int := if mayE l then eachE op (grp l) else 2
def mpR (op : List Jp → Int × List Jp) (l : List Ed) : List Ed := if mayE l then eachR op (grp l) else []
theorem grp_r8 {l : List Ed} (h : mayE l = true) : ∀ g ∈ grp l, g.1.length ≤ 8 := fun g hg => by
  obtain ⟨k1, k2, k3⟩ := grp_rows (mayE_rise h)
  obtain ⟨e, he, hee⟩ := (k2 g.1).1 (List.mem_map.2 ⟨g, hg, rfl⟩)
  rw [← hee]
  exact mayR_len ((mayE_rise h).1 e he)
end Go.Proofs.YtobmjcehgpmfgaaGreat
