/-
  A helper of ours: no claim of its own. Layer 23 (wide): what the code's functions return.
-/
import Derived.Test.YthckegejbcagmaaWidT
import Derived.Test.YthckegejbcagmaaWidS
import Derived.Test.YthckegejbcagmaaMem
import Derived.Test.YthckegejbcagmaaBits
import Derived.Test.YthckegejbcagmaaReg2
import Derived.Test.YthckegejbcagmaaReg3
import Derived.Test.YthckegejbcagmaaShelf
import Derived.Laws.Externs
import Derived.Handy
import Derived.BigQuiet
import Derived.Deep.LoopGhost
set_option linter.unusedVariables false
set_option linter.unusedSimpArgs false
namespace Go.Proofs.Ythckegejbcagmaa
open Go.RowKit
attribute [local go_sem] GW.cell GW.frozen In.eq_true In.le_true In.ne In.ne' In.ne_add In.ne_add' In.lt_add Upto.le_true Upto.le_add Upto.lt_add
def ngC (x : Int) : Nat → List Value
  | 0 => [.int .u64 (pt0 x), .int .u64 (pt1 x), .int .u64 (pt2 x), .int .u64 (pt3 x), .int .i64 (ptS x)]
  | 1 => [.int .u64 (4294967295 - pt0 x), .int .u64 (pt1 x), .int .u64 (pt2 x), .int .u64 (pt3 x), .int .i64 (ptS x)]
  | 2 => [.int .u64 (4294967295 - pt0 x), .int .u64 (4294967295 - pt1 x), .int .u64 (pt2 x), .int .u64 (pt3 x), .int .i64 (ptS x)]
  | 3 => [.int .u64 (4294967295 - pt0 x), .int .u64 (4294967295 - pt1 x), .int .u64 (4294967295 - pt2 x), .int .u64 (pt3 x), .int .i64 (ptS x)]
  | _ => [.int .u64 (4294967295 - pt0 x), .int .u64 (4294967295 - pt1 x), .int .u64 (4294967295 - pt2 x), .int .u64 (4294967295 - pt3 x), .int .i64 (ptS x)]
set_option maxHeartbeats 4000000 in
set_option maxRecDepth 100000 in
theorem wrefNeg_c (x : Int) (hx : InW x) (w : World) : Calls Try.prog 14 #[wv x] w fun e w' => e = .returned (.tuple #[wv (okW (-x)), .int .i64 (erW (-x))]) ∧ Ext w w' := by
  have hP := hide (fun w' => wparts_c x hx w')
  have hS := hide (fun w' => wsum_c (-1 - x) 1 (by unfold InW at *; omega) (by unfold InW; omega) w')
  have hF := hide (fun w' => wfits_c (-x) (by unfold InW at hx; omega) w')
  rw [show -1 - x + 1 = -x by omega] at hS
  obtain ⟨n0, n1, n2, n3, n4⟩ := pt_neg x
  obtain ⟨o0, o1, o2, o3, o4⟩ := pt_one
  unfold pv at hS
  rw [n0, n1, n2, n3, n4, o0, o1, o2, o3, o4] at hS
  obtain ⟨b0, b1, b2, b3⟩ := pt_in x
  have b4 : -1 ≤ ptS x := by unfold InW at hx; unfold ptS; omega
  have b5 : ptS x ≤ 0 := by unfold InW at hx; unfold ptS; omega
  clear n0 n1 n2 n3 n4 o0 o1 o2 o3 o4
  obtain ⟨O, hO⟩ : ∃ O, O = okW (-x) := ⟨_, rfl⟩
  obtain ⟨E, hE⟩ : ∃ E, E = erW (-x) := ⟨_, rfl⟩
  rw [← hO, ← hE]
  replace hO := hide hO
  replace hE := hide hE
  have A1 : Hid (∀ o : Obj, Ob ((w.alloc o).alloc (.cells #[.int .i64 0, .int .u64 0] 24)) (w.heap.size + 1) 24 [.int .i64 0, .int .u64 0]) := fun o => by
    have h := Ob.new (w.alloc o) 24 [.int .i64 0, .int .u64 0]
    rw [World.size_alloc] at h
    exact h
  replace hx := hide hx
  go_enter Try.func14, Try.ntmps14
  go_wp2_with (go_at_call 43; (with_reducible refine seq_gw (hP.out _) ?_); intro g)
  have hz := g.size
  simp only [World.size_alloc] at hz
  go_loopg [5] 4 (fun gh i wr => ∃ (k : Nat), k ≤ 4 ∧ k + gh = 4 ∧ i = .int .i64 k ∧ Ext w wr ∧ Ob wr (w.heap.size + 1) 24 [.int .i64 0, .int .u64 0] ∧ Ob wr g.val.heap.size 67 (ngC x k))
  case atStart =>
    exact ⟨0, by omega, by omega, rfl, ((((Ext.refl w).alloc _).alloc _).trans g.grown).alloc _, ((A1.out _).ext g.grown).alloc _, Ob.new g.val 67 (ngC x 0)⟩
  case round =>
    obtain ⟨k, hk, hg, rfl, hX, B2, B3⟩ := hrel
    clear A1
    haveI : In (w.heap.size + 1) wr := ⟨B2.lt⟩
    haveI : In g.val.heap.size wr := ⟨B3.lt⟩
    rcases (by omega : k = 4 ∨ k = 0 ∨ k = 1 ∨ k = 2 ∨ k = 3) with rfl | rfl | rfl | rfl | rfl
    · have z0 := B2.cell 0 rfl
      have z1 := B2.cell 1 rfl
      have f0 := B2.free 0
      have f1 := B2.free 1
      have c0 := B3.cell 0 rfl
      have c1 := B3.cell 1 rfl
      have c2 := B3.cell 2 rfl
      have c3 := B3.cell 3 rfl
      have c4 := B3.cell 4 rfl
      have g4 := B3.free 4
      have hlt := B3.lt
      replace B2 := hide B2
      replace B3 := hide B3
      have hne : (g.val.heap.size = w.heap.size + 1) = False := eq_false (by omega)
      have hne2 : (w.heap.size + 1 = g.val.heap.size) = False := eq_false (by omega)
      by_cases hi : InW (-x)
      · have hBk := hide (fun w' => wback_c (-x) hi w')
        rw [decide_eq_true hi] at hF
        rw [okW_in hi] at hO
        rw [erW_in hi] at hE
        replace hi := hide hi
        go_wp2_with (first | (go_at_call 42; (with_reducible refine seq_gw (hS.out _) ?_); intro g1) | (go_at_call 44; (with_reducible refine seq_gw' (hF.out _) ?_); intro g2) | (go_at_call 44; (with_reducible refine seq_gw (hF.out _) ?_); intro g2) | (go_at_call 45; (with_reducible refine seq_gw' (hBk.out _) ?_); intro g3))
        first | go_returns | refine bodyPost_ret (by simp [results, Try.results14, go_sem, z0, z1]; try rfl) rfl ?_
        refine ⟨by first | (rw [hO.out, hE.out]; done) | (rw [hO.out, hE.out]; simp [hi_zero, lo_zero]; done), ?_⟩
        repeat (first | exact Ext.refl _ | with_reducible assumption | refine Ext.alloc ?_ _ | refine Ext.drew ?_ | refine Ext.drewN ?_ _ | refine ext_gw ?_ _ | refine Ext.setCell ?_ (by first | (simp; done) | (simp [Upto.le_true, Upto.le_add]; done) | (simp; omega)) _)
      · have hBk := hide True.intro
        rw [decide_eq_false hi] at hF
        rw [okW_out hi] at hO
        rw [erW_out hi] at hE
        replace hi := hide hi
        go_wp2_with (first | (go_at_call 42; (with_reducible refine seq_gw (hS.out _) ?_); intro g1) | (go_at_call 44; (with_reducible refine seq_gw' (hF.out _) ?_); intro g2) | (go_at_call 44; (with_reducible refine seq_gw (hF.out _) ?_); intro g2) | (go_at_call 45; (with_reducible refine seq_gw' (hBk.out _) ?_); intro g3))
        first | go_returns | refine bodyPost_ret (by simp [results, Try.results14, go_sem, z0, z1]; try rfl) rfl ?_
        refine ⟨by first | (rw [hO.out, hE.out]; done) | (rw [hO.out, hE.out]; simp [hi_zero, lo_zero]; done), ?_⟩
        repeat (first | exact Ext.refl _ | with_reducible assumption | refine Ext.alloc ?_ _ | refine Ext.drew ?_ | refine Ext.drewN ?_ _ | refine ext_gw ?_ _ | refine Ext.setCell ?_ (by first | (simp; done) | (simp [Upto.le_true, Upto.le_add]; done) | (simp; omega)) _)
    · have z0 := B3.cell 0 rfl
      have g0 := B3.free 0
      have eS : (ngC x 0).set 0 (.int .u64 (4294967295 - pt0 x)) = ngC x (0 + 1) := rfl
      replace eS := hide eS
      replace B2 := hide B2
      replace B3 := hide B3
      go_wp2_with fail
      go_roundg (4 - (0 + 1))
      case measure => omega
      case rel =>
        refine ⟨0 + 1, by omega, by omega, by go_num, hX.setCell (by first | (simp; done) | (simp; omega)) _, ?_, ?_⟩
        · exact B2.out.far _ _ (by first | (simp; done) | (simp; omega))
        · have := B3.out.set 0 (.int .u64 (4294967295 - pt0 x))
          rw [eS.out] at this
          exact this
    · have z1 := B3.cell 1 rfl
      have g1 := B3.free 1
      have eS : (ngC x 1).set 1 (.int .u64 (4294967295 - pt1 x)) = ngC x (1 + 1) := rfl
      replace eS := hide eS
      replace B2 := hide B2
      replace B3 := hide B3
      go_wp2_with fail
      go_roundg (4 - (1 + 1))
      case measure => omega
      case rel =>
        refine ⟨1 + 1, by omega, by omega, by go_num, hX.setCell (by first | (simp; done) | (simp; omega)) _, ?_, ?_⟩
        · exact B2.out.far _ _ (by first | (simp; done) | (simp; omega))
        · have := B3.out.set 1 (.int .u64 (4294967295 - pt1 x))
          rw [eS.out] at this
          exact this
    · have z2 := B3.cell 2 rfl
      have g2 := B3.free 2
      have eS : (ngC x 2).set 2 (.int .u64 (4294967295 - pt2 x)) = ngC x (2 + 1) := rfl
      replace eS := hide eS
      replace B2 := hide B2
      replace B3 := hide B3
      go_wp2_with fail
      go_roundg (4 - (2 + 1))
      case measure => omega
      case rel =>
        refine ⟨2 + 1, by omega, by omega, by go_num, hX.setCell (by first | (simp; done) | (simp; omega)) _, ?_, ?_⟩
        · exact B2.out.far _ _ (by first | (simp; done) | (simp; omega))
        · have := B3.out.set 2 (.int .u64 (4294967295 - pt2 x))
          rw [eS.out] at this
          exact this
    · have z3 := B3.cell 3 rfl
      have g3 := B3.free 3
      have eS : (ngC x 3).set 3 (.int .u64 (4294967295 - pt3 x)) = ngC x (3 + 1) := rfl
      replace eS := hide eS
      replace B2 := hide B2
      replace B3 := hide B3
      go_wp2_with fail
      go_roundg (4 - (3 + 1))
      case measure => omega
      case rel =>
        refine ⟨3 + 1, by omega, by omega, by go_num, hX.setCell (by first | (simp; done) | (simp; omega)) _, ?_, ?_⟩
        · exact B2.out.far _ _ (by first | (simp; done) | (simp; omega))
        · have := B3.out.set 3 (.int .u64 (4294967295 - pt3 x))
          rw [eS.out] at this
          exact this
theorem wrefCompare_c (x y : Int) (w : World) : Calls Try.prog 24 #[wv x, wv y] w fun e w' => e = .returned (.int .i64 (cmW x y)) ∧ Ext w w' := by
  have hx := mk_hl x
  have hy := mk_hl y
  have b1 := lo_in x
  have b2 := lo_in y
  have hk : cmW x y = if hiW x < hiW y then -1 else if hiW x = hiW y then (if loW x < loW y then -1 else if loW x = loW y then 0 else 1) else 1 := by
    unfold mkW at hx hy
    unfold cmW
    split <;> split <;> (try split) <;> (try split) <;> (try split) <;> first | rfl | omega
  rw [hk]
  unfold wv
  generalize hiW x = xh at *
  generalize loW x = xl at *
  generalize hiW y = yh at *
  generalize loW y = yl at *
  clear hk hx hy b1 b2
  rcases Int.lt_trichotomy xh yh with h | h | h
  · rw [if_pos h]
    go_enter Try.func24, Try.ntmps24
    go_wp2_with fail
    all_goals
      go_returns
      refine ⟨by first | rfl | simp, ?_⟩
      repeat (first | exact Ext.refl _ | with_reducible assumption | refine Ext.alloc ?_ _ | refine Ext.drew ?_ | refine Ext.drewN ?_ _ | refine ext_gw ?_ _ | refine Ext.setCell ?_ (by first | (simp; done) | (simp [Upto.le_true, Upto.le_add]; done) | (simp; omega)) _)
  · subst h
    rw [if_neg (Int.lt_irrefl _), if_pos rfl]
    rcases Int.lt_trichotomy xl yl with h | h | h
    · rw [if_pos h]
      go_enter Try.func24, Try.ntmps24
      go_wp2_with fail
      all_goals
        go_returns
        refine ⟨by first | rfl | simp, ?_⟩
        repeat (first | exact Ext.refl _ | with_reducible assumption | refine Ext.alloc ?_ _ | refine Ext.drew ?_ | refine Ext.drewN ?_ _ | refine ext_gw ?_ _ | refine Ext.setCell ?_ (by first | (simp; done) | (simp [Upto.le_true, Upto.le_add]; done) | (simp; omega)) _)
    · subst h
      rw [if_neg (Int.lt_irrefl _), if_pos rfl]
      go_enter Try.func24, Try.ntmps24
      go_wp2_with fail
      all_goals
        go_returns
        refine ⟨by first | rfl | simp, ?_⟩
        repeat (first | exact Ext.refl _ | with_reducible assumption | refine Ext.alloc ?_ _ | refine Ext.drew ?_ | refine Ext.drewN ?_ _ | refine ext_gw ?_ _ | refine Ext.setCell ?_ (by first | (simp; done) | (simp [Upto.le_true, Upto.le_add]; done) | (simp; omega)) _)
    · rw [if_neg (by omega), if_neg (by omega)]
      have h2 : ¬ xl = yl := by omega
      go_enter Try.func24, Try.ntmps24
      go_wp2_with fail
      all_goals
        go_returns
        refine ⟨by first | rfl | simp, ?_⟩
        repeat (first | exact Ext.refl _ | with_reducible assumption | refine Ext.alloc ?_ _ | refine Ext.drew ?_ | refine Ext.drewN ?_ _ | refine ext_gw ?_ _ | refine Ext.setCell ?_ (by first | (simp; done) | (simp [Upto.le_true, Upto.le_add]; done) | (simp; omega)) _)
  · rw [if_neg (by omega), if_neg (by omega)]
    have h2 : ¬ xh = yh := by omega
    have h3 : ¬ yh = xh := by omega
    go_enter Try.func24, Try.ntmps24
    go_wp2_with fail
    all_goals
      go_returns
      refine ⟨by first | rfl | simp, ?_⟩
      repeat (first | exact Ext.refl _ | with_reducible assumption | refine Ext.alloc ?_ _ | refine Ext.drew ?_ | refine Ext.drewN ?_ _ | refine ext_gw ?_ _ | refine Ext.setCell ?_ (by first | (simp; done) | (simp [Upto.le_true, Upto.le_add]; done) | (simp; omega)) _)
end Go.Proofs.Ythckegejbcagmaa
