/-
  A helper of ours: no claim of its own. Layer 23 (wide): what the code's functions return.
-/
import Derived.Test.YthckegejbcagmaaWidC
import Derived.Test.YthckegejbcagmaaWidS
import Derived.Test.YthckegejbcagmaaMem
import Derived.Test.YthckegejbcagmaaBits
import Derived.Test.YthckegejbcagmaaReg2
import Derived.Test.YthckegejbcagmaaReg3
import Derived.Test.YthckegejbcagmaaShelf
import Derived.Laws.Externs
import Derived.Handy
import Derived.BigQuiet
import Derived.Deep.LoopGhost
set_option linter.unusedVariables false
set_option linter.unusedSimpArgs false
namespace Go.Proofs.Ythckegejbcagmaa
open Go.RowKit
attribute [local go_sem] GW.cell GW.frozen In.eq_true In.le_true In.ne In.ne' In.ne_add In.ne_add' In.lt_add Upto.le_true Upto.le_add Upto.lt_add
/-- The parts as a value. -/
abbrev pv (x : Int) : Value := .agg #[.int .u64 (pt0 x), .int .u64 (pt1 x), .int .u64 (pt2 x), .int .u64 (pt3 x), .int .i64 (ptS x)]
theorem wrefOf_c (n : Int) (hn : -9223372036854775808 ≤ n ∧ n ≤ 9223372036854775807) (w : World) : Calls Try.prog 25 #[.int .i64 n] w fun e w' => e = .returned (wv n) ∧ Ext w w' := by
  obtain ⟨h1, h2⟩ := of_hl hn
  unfold wv
  rw [h1, h2]
  by_cases h : n < 0
  · rw [sg_neg h hn.1]
    clear h1 h2 hn
    go_enter Try.func25, Try.ntmps25
    go_wp2
    go_returns
    refine ⟨by first | rfl | simp, ?_⟩
    repeat (first | exact Ext.refl _ | with_reducible assumption | refine Ext.alloc ?_ _ | refine Ext.drew ?_ | refine Ext.drewN ?_ _ | refine ext_gw ?_ _ | refine Ext.setCell ?_ (by first | (simp; done) | (simp [Upto.le_true, Upto.le_add]; done) | (simp; omega)) _)
  · rw [sg_pos (by omega) hn.2]
    clear h1 h2 hn
    go_enter Try.func25, Try.ntmps25
    go_wp2
    go_returns
    refine ⟨by first | rfl | simp, ?_⟩
    repeat (first | exact Ext.refl _ | with_reducible assumption | refine Ext.alloc ?_ _ | refine Ext.drew ?_ | refine Ext.drewN ?_ _ | refine ext_gw ?_ _ | refine Ext.setCell ?_ (by first | (simp; done) | (simp [Upto.le_true, Upto.le_add]; done) | (simp; omega)) _)
set_option maxHeartbeats 1000000 in
theorem wparts_c (x : Int) (hx : InW x) (w : World) : Calls Try.prog 43 #[wv x] w fun e w' => e = .returned (pv x) ∧ Ext w w' := by
  obtain ⟨p0, p1, p2, p3, ps⟩ := pt_of_hl hx
  have hh := hi_in hx
  have hl := lo_in x
  have uh : 0 ≤ IntKind.u64.wrap (hiW x) := by rw [u64_wrap]; omega
  unfold pv wv
  rw [p0, p1, p2, p3, ps]
  generalize hiW x = xh at *
  generalize loW x = xl at *
  have t1 := Int.tmod_eq_emod_of_nonneg (b := 4294967296) hl.1
  have t2 := Int.tmod_eq_emod_of_nonneg (b := 4294967296) uh
  clear p0 p1 p2 p3 ps hx
  by_cases h : xh < 0
  · rw [sg_neg h hh.1]
    clear hh hl uh
    go_enter Try.func43, Try.ntmps43
    go_wp2
    go_returns
    refine ⟨by first | rfl | (simp [t1, t2]; done), ?_⟩
    repeat (first | exact Ext.refl _ | with_reducible assumption | refine Ext.alloc ?_ _ | refine Ext.drew ?_ | refine Ext.drewN ?_ _ | refine ext_gw ?_ _ | refine Ext.setCell ?_ (by first | (simp; done) | (simp [Upto.le_true, Upto.le_add]; done) | (simp; omega)) _)
  · rw [sg_pos (by omega) hh.2]
    clear hh hl uh
    go_enter Try.func43, Try.ntmps43
    go_wp2
    go_returns
    refine ⟨by first | rfl | (simp [t1, t2]; done), ?_⟩
    repeat (first | exact Ext.refl _ | with_reducible assumption | refine Ext.alloc ?_ _ | refine Ext.drew ?_ | refine Ext.drewN ?_ _ | refine ext_gw ?_ _ | refine Ext.setCell ?_ (by first | (simp; done) | (simp [Upto.le_true, Upto.le_add]; done) | (simp; omega)) _)
theorem wfits_c (x : Int) (hb : -340282366920938463463374607431768211456 ≤ x ∧ x < 340282366920938463463374607431768211456) (w : World) : Calls Try.prog 44 #[pv x] w fun e w' => e = .returned (.bool (decide (InW x))) ∧ Ext w w' := by
  have k := pt_fits x hb
  have q : decide (InW x) = if 2147483648 ≤ pt3 x then ptS x == -1 else ptS x == 0 := by
    split <;> rename_i h <;> simp only [h, if_true, if_false] at k <;> simp only [k] <;> exact (Bool.beq_eq_decide_eq _ _).symm
  rw [q]
  unfold pv
  generalize pt0 x = a0 at *
  generalize pt1 x = a1 at *
  generalize pt2 x = a2 at *
  generalize pt3 x = a3 at *
  generalize ptS x = sx at *
  clear k q hb
  by_cases h : 2147483648 ≤ a3
  · rw [if_pos h]
    go_enter Try.func44, Try.ntmps44
    go_wp2
    go_returns
    refine ⟨by first | rfl | (simp; done), ?_⟩
    repeat (first | exact Ext.refl _ | with_reducible assumption | refine Ext.alloc ?_ _ | refine Ext.drew ?_ | refine Ext.drewN ?_ _ | refine ext_gw ?_ _ | refine Ext.setCell ?_ (by first | (simp; done) | (simp [Upto.le_true, Upto.le_add]; done) | (simp; omega)) _)
  · rw [if_neg h]
    go_enter Try.func44, Try.ntmps44
    go_wp2
    go_returns
    refine ⟨by first | rfl | (simp; done), ?_⟩
    repeat (first | exact Ext.refl _ | with_reducible assumption | refine Ext.alloc ?_ _ | refine Ext.drew ?_ | refine Ext.drewN ?_ _ | refine ext_gw ?_ _ | refine Ext.setCell ?_ (by first | (simp; done) | (simp [Upto.le_true, Upto.le_add]; done) | (simp; omega)) _)
theorem or_parts {a b : Int} (ha : 0 ≤ a ∧ a ≤ 4294967295) (hb : 0 ≤ b ∧ b ≤ 4294967295) : bits .or .u64 (a * 4294967296) b = a * 4294967296 + b := by
  have h := or_u64_add b (a * 4294967296) 32 (by omega) hb.1 (by omega) (by omega) (by omega) (by omega)
  rw [Int.add_comm, ← h]
  show IntKind.u64.wrap ((BitVec.ofInt 64 (a * 4294967296) ||| BitVec.ofInt 64 b).toNat : Int) = IntKind.u64.wrap ((BitVec.ofInt 64 b ||| BitVec.ofInt 64 (a * 4294967296)).toNat : Int)
  rw [BitVec.or_comm]
set_option maxHeartbeats 1000000 in
theorem wback_c (x : Int) (hx : InW x) (w : World) : Calls Try.prog 45 #[pv x] w fun e w' => e = .returned (wv x) ∧ Ext w w' := by
  have h1 := pt_hi hx
  have h2 := pt_lo x
  obtain ⟨b0, b1, b2, b3⟩ := pt_in x
  have o1 := or_parts b3 b2
  have o2 := or_parts b1 b0
  have w1 : IntKind.u64.wrap (pt3 x * 4294967296) = pt3 x * 4294967296 := by rw [u64_wrap]; omega
  have w2 : IntKind.u64.wrap (pt1 x * 4294967296) = pt1 x * 4294967296 := by rw [u64_wrap]; omega
  have hw : IntKind.i64.wrap (IntKind.u64.wrap (hiW x)) = hiW x := by have := hi_in hx; rw [u64_wrap, i64_wrap]; omega
  unfold pv wv
  rw [← h2, ← hw, ← h1]
  generalize pt0 x = a0 at *
  generalize pt1 x = a1 at *
  generalize pt2 x = a2 at *
  generalize pt3 x = a3 at *
  clear h1 h2 hw b0 b1 b2 b3 hx
  go_enter Try.func45, Try.ntmps45
  go_wp2
  go_returns
  refine ⟨by first | rfl | (simp [o1, o2, w1, w2, IntWalk.i64_left]; done), ?_⟩
  repeat (first | exact Ext.refl _ | with_reducible assumption | refine Ext.alloc ?_ _ | refine Ext.drew ?_ | refine Ext.drewN ?_ _ | refine ext_gw ?_ _ | refine Ext.setCell ?_ (by first | (simp; done) | (simp [Upto.le_true, Upto.le_add]; done) | (simp; omega)) _)
theorem pc_lt (a b : Nat) : (a : Int) < b ↔ a < b := by omega
/-- What is carried ahead of part k, and the cells of the sum so far. -/
def crN (x y : Int) : Nat → Int
  | 0 => 0
  | 1 => cr1 x y
  | 2 => cr2 x y
  | 3 => cr3 x y
  | _ => cr4 x y
def smC (x y : Int) : Nat → List Value
  | 0 => [.int .u64 0, .int .u64 0, .int .u64 0, .int .u64 0, .int .i64 0]
  | 1 => [.int .u64 ((pt0 x + pt0 y + 0) % 4294967296), .int .u64 0, .int .u64 0, .int .u64 0, .int .i64 0]
  | 2 => [.int .u64 ((pt0 x + pt0 y + 0) % 4294967296), .int .u64 ((pt1 x + pt1 y + cr1 x y) % 4294967296), .int .u64 0, .int .u64 0, .int .i64 0]
  | 3 => [.int .u64 ((pt0 x + pt0 y + 0) % 4294967296), .int .u64 ((pt1 x + pt1 y + cr1 x y) % 4294967296), .int .u64 ((pt2 x + pt2 y + cr2 x y) % 4294967296), .int .u64 0, .int .i64 0]
  | _ => [.int .u64 ((pt0 x + pt0 y + 0) % 4294967296), .int .u64 ((pt1 x + pt1 y + cr1 x y) % 4294967296), .int .u64 ((pt2 x + pt2 y + cr2 x y) % 4294967296), .int .u64 ((pt3 x + pt3 y + cr3 x y) % 4294967296), .int .i64 0]
/-- A sum of parts, as the walk spells it. -/
theorem u_sum {a b c : Int} (ha : 0 ≤ a ∧ a ≤ 4294967295) (hb : 0 ≤ b ∧ b ≤ 4294967295) (hc : 0 ≤ c ∧ c ≤ 1) : IntKind.u64.wrap (IntKind.u64.wrap (a + b) + c) = a + b + c := by rw [u64_wrap, u64_wrap]; omega
set_option maxHeartbeats 4000000 in
set_option maxRecDepth 100000 in
theorem wsum_c (x y : Int) (hx : InW x) (hy : InW y) (w : World) : Calls Try.prog 42 #[pv x, pv y] w fun e w' => e = .returned (pv (x + y)) ∧ Ext w w' := by
  obtain ⟨q0, q1, q2, q3, qs⟩ := pt_add x y
  obtain ⟨bx0, bx1, bx2, bx3⟩ := pt_in x
  obtain ⟨by0, by1, by2, by3⟩ := pt_in y
  obtain ⟨r1, r2, r3, r4⟩ := cr_in x y
  have s0 := u_sum bx0 by0 (c := 0) (by omega)
  have s1 := u_sum bx1 by1 r1
  have s2 := u_sum bx2 by2 r2
  have s3 := u_sum bx3 by3 r3
  have hpx : ptS x = -1 ∨ ptS x = 0 := by unfold InW at hx; unfold ptS; omega
  have hpy : ptS y = -1 ∨ ptS y = 0 := by unfold InW at hy; unfold ptS; omega
  have ws : IntKind.i64.wrap (IntKind.i64.wrap (ptS x + ptS y) + IntKind.i64.wrap (cr4 x y)) = ptS x + ptS y + cr4 x y := by simp only [i64_wrap]; omega
  have hlx : Hid (InW x ∧ InW y) := ⟨hx, hy⟩
  unfold pv
  rw [q0, q1, q2, q3, qs]
  clear hx hy q0 q1 q2 q3 qs
  have W0 : ∀ i, i ≤ 4 → 0 ≤ crN x y i ∧ crN x y i ≤ 1 := by
    intro i hi
    rcases (by omega : i = 0 ∨ i = 1 ∨ i = 2 ∨ i = 3 ∨ i = 4) with rfl | rfl | rfl | rfl | rfl
    · show (0 : Int) ≤ 0 ∧ (0 : Int) ≤ 1; omega
    · exact r1
    · exact r2
    · exact r3
    · exact r4
  replace W0 := hide W0
  obtain ⟨XS, hXS⟩ : ∃ XS, XS = [Value.int .u64 (pt0 x), .int .u64 (pt1 x), .int .u64 (pt2 x), .int .u64 (pt3 x), .int .i64 (ptS x)] := ⟨_, rfl⟩
  obtain ⟨YS, hYS⟩ : ∃ YS, YS = [Value.int .u64 (pt0 y), .int .u64 (pt1 y), .int .u64 (pt2 y), .int .u64 (pt3 y), .int .i64 (ptS y)] := ⟨_, rfl⟩
  replace hXS := hide hXS
  replace hYS := hide hYS
  have A0 : Hid (Ob ((((w.alloc (.cells #[Value.int .u64 (pt0 x), .int .u64 (pt1 x), .int .u64 (pt2 x), .int .u64 (pt3 x), .int .i64 (ptS x)] 67)).alloc (.cells #[Value.int .u64 (pt0 y), .int .u64 (pt1 y), .int .u64 (pt2 y), .int .u64 (pt3 y), .int .i64 (ptS y)] 67)).alloc (.cells #[.int .u64 0, .int .u64 0, .int .u64 0, .int .u64 0, .int .i64 0] 67)).alloc (.cells #[.int .u64 0, .int .u64 0, .int .u64 0, .int .u64 0, .int .i64 0] 67)) w.heap.size 67 XS) := by
    rw [hXS.out]; exact (((Ob.new w _ _).alloc _).alloc _).alloc _
  have A1 : Hid (Ob ((((w.alloc (.cells #[Value.int .u64 (pt0 x), .int .u64 (pt1 x), .int .u64 (pt2 x), .int .u64 (pt3 x), .int .i64 (ptS x)] 67)).alloc (.cells #[Value.int .u64 (pt0 y), .int .u64 (pt1 y), .int .u64 (pt2 y), .int .u64 (pt3 y), .int .i64 (ptS y)] 67)).alloc (.cells #[.int .u64 0, .int .u64 0, .int .u64 0, .int .u64 0, .int .i64 0] 67)).alloc (.cells #[.int .u64 0, .int .u64 0, .int .u64 0, .int .u64 0, .int .i64 0] 67)) (w.heap.size + 1) 67 YS) := by
    rw [hYS.out]
    have h := Ob.new (w.alloc (.cells #[Value.int .u64 (pt0 x), .int .u64 (pt1 x), .int .u64 (pt2 x), .int .u64 (pt3 x), .int .i64 (ptS x)] 67)) 67 [Value.int .u64 (pt0 y), .int .u64 (pt1 y), .int .u64 (pt2 y), .int .u64 (pt3 y), .int .i64 (ptS y)]
    rw [World.size_alloc] at h
    exact (h.alloc _).alloc _
  have A2 : ∀ (v : World) (o : Obj), Hid (Ob ((v.alloc (.cells #[.int .u64 0, .int .u64 0, .int .u64 0, .int .u64 0, .int .i64 0] 67)).alloc o) v.heap.size 67 [.int .u64 0, .int .u64 0, .int .u64 0, .int .u64 0, .int .i64 0]) := fun v o => (Ob.new v _ _).alloc _
  have A3 : ∀ (v : World), Hid (Ob (v.alloc (.cells #[.int .u64 0, .int .u64 0, .int .u64 0, .int .u64 0, .int .i64 0] 67)) v.heap.size 67 (smC x y 0)) := fun v => Ob.new v _ _
  go_enter Try.func42, Try.ntmps42
  go_wp2_with fail
  go_loopg [6, 7, 8] 4 (fun gh c i s wr => ∃ (k : Nat), k ≤ 4 ∧ k + gh = 4 ∧ c = .int .u64 (crN x y k) ∧ i = .int .i64 k ∧ Ext w wr ∧ Ob wr w.heap.size 67 XS ∧ Ob wr (w.heap.size + 1) 67 YS ∧ Ob wr (w.heap.size + 1 + 1) 67 [.int .u64 0, .int .u64 0, .int .u64 0, .int .u64 0, .int .i64 0] ∧ Ob wr (w.heap.size + 1 + 1 + 1) 67 (smC x y k))
  case atStart =>
    refine ⟨0, by omega, by omega, rfl, rfl, ((((Ext.refl w).alloc _).alloc _).alloc _).alloc _, A0.out, A1.out, ?_, ?_⟩
    · have := (A2 ((w.alloc (.cells #[Value.int .u64 (pt0 x), .int .u64 (pt1 x), .int .u64 (pt2 x), .int .u64 (pt3 x), .int .i64 (ptS x)] 67)).alloc (.cells #[Value.int .u64 (pt0 y), .int .u64 (pt1 y), .int .u64 (pt2 y), .int .u64 (pt3 y), .int .i64 (ptS y)] 67)) (.cells #[.int .u64 0, .int .u64 0, .int .u64 0, .int .u64 0, .int .i64 0] 67)).out
      rw [World.size_alloc, World.size_alloc] at this
      exact this
    · have := (A3 (((w.alloc (.cells #[Value.int .u64 (pt0 x), .int .u64 (pt1 x), .int .u64 (pt2 x), .int .u64 (pt3 x), .int .i64 (ptS x)] 67)).alloc (.cells #[Value.int .u64 (pt0 y), .int .u64 (pt1 y), .int .u64 (pt2 y), .int .u64 (pt3 y), .int .i64 (ptS y)] 67)).alloc (.cells #[.int .u64 0, .int .u64 0, .int .u64 0, .int .u64 0, .int .i64 0] 67))).out
      rw [World.size_alloc, World.size_alloc, World.size_alloc] at this
      exact this
  case round =>
    obtain ⟨k, hk, hg, rfl, rfl, hX, B0, B1, B2, B3⟩ := hrel
    clear A0 A1 A2 A3
    haveI : In w.heap.size wr := ⟨B0.lt⟩
    haveI : In (w.heap.size + 1) wr := ⟨B1.lt⟩
    haveI : In (w.heap.size + 1 + 1) wr := ⟨B2.lt⟩
    haveI : In (w.heap.size + 1 + 1 + 1) wr := ⟨B3.lt⟩
    obtain ⟨Y0, hY0⟩ : ∃ z, z = B0 := ⟨_, rfl⟩
    have B0' := B0
    have B1' := B1
    rw [hXS.out] at B0'
    rw [hYS.out] at B1'
    rcases (by omega : k = 4 ∨ k = 0 ∨ k = 1 ∨ k = 2 ∨ k = 3) with rfl | rfl | rfl | rfl | rfl
    · have x4 := B0'.cell 4 rfl
      have y4 := B1'.cell 4 rfl
      have z0 := B2.cell 0 rfl
      have z1 := B2.cell 1 rfl
      have z2 := B2.cell 2 rfl
      have z3 := B2.cell 3 rfl
      have z4 := B2.cell 4 rfl
      have c0 := B3.cell 0 rfl
      have c1 := B3.cell 1 rfl
      have c2 := B3.cell 2 rfl
      have c3 := B3.cell 3 rfl
      have c4 := B3.cell 4 rfl
      have f0 := B2.free 0
      have f1 := B2.free 1
      have f2 := B2.free 2
      have f3 := B2.free 3
      have f4 := B2.free 4
      have g4 := B3.free 4
      replace B0 := hide B0
      replace B1 := hide B1
      replace B2 := hide B2
      replace B3 := hide B3
      clear B0' B1' hY0 Y0
      have wq : RowKit.wrap64 (ptS x + ptS y + RowKit.wrap64 (crN x y 4)) = ptS x + ptS y + cr4 x y := by
        show RowKit.wrap64 (ptS x + ptS y + RowKit.wrap64 (cr4 x y)) = _
        unfold RowKit.wrap64; omega
      replace wq := hide wq
      go_wp2_with fail
      rw [wq.out]
      refine bodyPost_ret (by simp [results, Try.results42, go_sem, z0, z1, z2, z3, z4]; try rfl) rfl ?_
      exact ⟨by simp, (((((hX.setCell (by first | (simp; done) | (simp; omega)) _).setCell (by first | (simp; done) | (simp; omega)) _).setCell (by first | (simp; done) | (simp; omega)) _).setCell (by first | (simp; done) | (simp; omega)) _).setCell (by first | (simp; done) | (simp; omega)) _).setCell (by first | (simp; done) | (simp; omega)) _⟩
    · have x0 := B0'.cell 0 rfl
      have y0 := B1'.cell 0 rfl
      have g0 := B3.free 0
      have z0 := B3.cell 0 rfl
      have cb : 0 ≤ crN x y 0 ∧ crN x y 0 ≤ 1 := W0.out 0 (by omega)
      have nq : IntKind.u64.wrap (IntKind.u64.wrap (pt0 x + pt0 y) + crN x y 0) = pt0 x + pt0 y + crN x y 0 := u_sum bx0 by0 cb
      have eN : crN x y (0 + 1) = (pt0 x + pt0 y + crN x y 0) / 4294967296 := rfl
      have eS : (smC x y 0).set 0 (.int .u64 ((pt0 x + pt0 y + crN x y 0) % 4294967296)) = smC x y (0 + 1) := rfl
      replace eN := hide eN
      replace eS := hide eS
      replace B0 := hide B0
      replace B1 := hide B1
      replace B2 := hide B2
      replace B3 := hide B3
      clear B0' B1' hY0 Y0 nq
      obtain ⟨C, hC⟩ : ∃ C, C = crN x y 0 := ⟨_, rfl⟩
      rw [← hC] at cb eN eS
      rw [← hC]
      clear hC
      go_wp2_with fail
      refine wp_region_gw (by kernel_rfl) (by kernel_rfl) ?_
      repeat (go_big_quiet_step (fail))
      refine wpQuiet_nil ?_
      intro g
      go_wp2_with fail
      go_roundg (4 - (0 + 1))
      case measure => omega
      case rel =>
        refine ⟨0 + 1, by omega, by omega, by rw [eN.out], by go_num, (hX.trans g.grown).setCell (by first | (simp; done) | (simp; omega)) _, ?_, ?_, ?_, ?_⟩
        · exact (B0.out.ext g.grown).far _ _ (by first | (simp; done) | (simp; omega))
        · exact (B1.out.ext g.grown).far _ _ (by first | (simp; done) | (simp; omega))
        · exact (B2.out.ext g.grown).far _ _ (by simp)
        · have := (B3.out.ext g.grown).set 0 (.int .u64 ((pt0 x + pt0 y + C) % 4294967296))
          rw [eS.out] at this
          exact this
    · have x1 := B0'.cell 1 rfl
      have y1 := B1'.cell 1 rfl
      have g1 := B3.free 1
      have z1 := B3.cell 1 rfl
      have cb : 0 ≤ crN x y 1 ∧ crN x y 1 ≤ 1 := W0.out 1 (by omega)
      have nq : IntKind.u64.wrap (IntKind.u64.wrap (pt1 x + pt1 y) + crN x y 1) = pt1 x + pt1 y + crN x y 1 := u_sum bx1 by1 cb
      have eN : crN x y (1 + 1) = (pt1 x + pt1 y + crN x y 1) / 4294967296 := rfl
      have eS : (smC x y 1).set 1 (.int .u64 ((pt1 x + pt1 y + crN x y 1) % 4294967296)) = smC x y (1 + 1) := rfl
      replace eN := hide eN
      replace eS := hide eS
      replace B0 := hide B0
      replace B1 := hide B1
      replace B2 := hide B2
      replace B3 := hide B3
      clear B0' B1' hY0 Y0 nq
      obtain ⟨C, hC⟩ : ∃ C, C = crN x y 1 := ⟨_, rfl⟩
      rw [← hC] at cb eN eS
      rw [← hC]
      clear hC
      go_wp2_with fail
      refine wp_region_gw (by kernel_rfl) (by kernel_rfl) ?_
      repeat (go_big_quiet_step (fail))
      refine wpQuiet_nil ?_
      intro g
      go_wp2_with fail
      go_roundg (4 - (1 + 1))
      case measure => omega
      case rel =>
        refine ⟨1 + 1, by omega, by omega, by rw [eN.out], by go_num, (hX.trans g.grown).setCell (by first | (simp; done) | (simp; omega)) _, ?_, ?_, ?_, ?_⟩
        · exact (B0.out.ext g.grown).far _ _ (by first | (simp; done) | (simp; omega))
        · exact (B1.out.ext g.grown).far _ _ (by first | (simp; done) | (simp; omega))
        · exact (B2.out.ext g.grown).far _ _ (by simp)
        · have := (B3.out.ext g.grown).set 1 (.int .u64 ((pt1 x + pt1 y + C) % 4294967296))
          rw [eS.out] at this
          exact this
    · have x2 := B0'.cell 2 rfl
      have y2 := B1'.cell 2 rfl
      have g2 := B3.free 2
      have z2 := B3.cell 2 rfl
      have cb : 0 ≤ crN x y 2 ∧ crN x y 2 ≤ 1 := W0.out 2 (by omega)
      have nq : IntKind.u64.wrap (IntKind.u64.wrap (pt2 x + pt2 y) + crN x y 2) = pt2 x + pt2 y + crN x y 2 := u_sum bx2 by2 cb
      have eN : crN x y (2 + 1) = (pt2 x + pt2 y + crN x y 2) / 4294967296 := rfl
      have eS : (smC x y 2).set 2 (.int .u64 ((pt2 x + pt2 y + crN x y 2) % 4294967296)) = smC x y (2 + 1) := rfl
      replace eN := hide eN
      replace eS := hide eS
      replace B0 := hide B0
      replace B1 := hide B1
      replace B2 := hide B2
      replace B3 := hide B3
      clear B0' B1' hY0 Y0 nq
      obtain ⟨C, hC⟩ : ∃ C, C = crN x y 2 := ⟨_, rfl⟩
      rw [← hC] at cb eN eS
      rw [← hC]
      clear hC
      go_wp2_with fail
      refine wp_region_gw (by kernel_rfl) (by kernel_rfl) ?_
      repeat (go_big_quiet_step (fail))
      refine wpQuiet_nil ?_
      intro g
      go_wp2_with fail
      go_roundg (4 - (2 + 1))
      case measure => omega
      case rel =>
        refine ⟨2 + 1, by omega, by omega, by rw [eN.out], by go_num, (hX.trans g.grown).setCell (by first | (simp; done) | (simp; omega)) _, ?_, ?_, ?_, ?_⟩
        · exact (B0.out.ext g.grown).far _ _ (by first | (simp; done) | (simp; omega))
        · exact (B1.out.ext g.grown).far _ _ (by first | (simp; done) | (simp; omega))
        · exact (B2.out.ext g.grown).far _ _ (by simp)
        · have := (B3.out.ext g.grown).set 2 (.int .u64 ((pt2 x + pt2 y + C) % 4294967296))
          rw [eS.out] at this
          exact this
    · have x3 := B0'.cell 3 rfl
      have y3 := B1'.cell 3 rfl
      have g3 := B3.free 3
      have z3 := B3.cell 3 rfl
      have cb : 0 ≤ crN x y 3 ∧ crN x y 3 ≤ 1 := W0.out 3 (by omega)
      have nq : IntKind.u64.wrap (IntKind.u64.wrap (pt3 x + pt3 y) + crN x y 3) = pt3 x + pt3 y + crN x y 3 := u_sum bx3 by3 cb
      have eN : crN x y (3 + 1) = (pt3 x + pt3 y + crN x y 3) / 4294967296 := rfl
      have eS : (smC x y 3).set 3 (.int .u64 ((pt3 x + pt3 y + crN x y 3) % 4294967296)) = smC x y (3 + 1) := rfl
      replace eN := hide eN
      replace eS := hide eS
      replace B0 := hide B0
      replace B1 := hide B1
      replace B2 := hide B2
      replace B3 := hide B3
      clear B0' B1' hY0 Y0 nq
      obtain ⟨C, hC⟩ : ∃ C, C = crN x y 3 := ⟨_, rfl⟩
      rw [← hC] at cb eN eS
      rw [← hC]
      clear hC
      go_wp2_with fail
      refine wp_region_gw (by kernel_rfl) (by kernel_rfl) ?_
      repeat (go_big_quiet_step (fail))
      refine wpQuiet_nil ?_
      intro g
      go_wp2_with fail
      go_roundg (4 - (3 + 1))
      case measure => omega
      case rel =>
        refine ⟨3 + 1, by omega, by omega, by rw [eN.out], by go_num, (hX.trans g.grown).setCell (by first | (simp; done) | (simp; omega)) _, ?_, ?_, ?_, ?_⟩
        · exact (B0.out.ext g.grown).far _ _ (by first | (simp; done) | (simp; omega))
        · exact (B1.out.ext g.grown).far _ _ (by first | (simp; done) | (simp; omega))
        · exact (B2.out.ext g.grown).far _ _ (by simp)
        · have := (B3.out.ext g.grown).set 3 (.int .u64 ((pt3 x + pt3 y + C) % 4294967296))
          rw [eS.out] at this
          exact this
end Go.Proofs.Ythckegejbcagmaa
