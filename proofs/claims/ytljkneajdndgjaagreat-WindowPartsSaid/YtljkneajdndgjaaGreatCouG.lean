/-
  A helper of ours: no claim of its own. Layer 29 (counts): groups of a table lie in blocks of their own; a region in a round of a range, of which one operation turns objects.
-/
import Derived.Test.YtljkneajdndgjaaGreatCouC
import Derived.Test.YtljkneajdndgjaaGreatStepR
import Derived.Test.YtljkneajdndgjaaGreatSnaD
import Derived.Test.YtljkneajdndgjaaGreatHopF
import Derived.Test.YtljkneajdndgjaaGreatEdgM
set_option linter.unusedVariables false
set_option linter.unusedSimpArgs false
namespace Go.Proofs.YtljkneajdndgjaaGreat
open Go.RowKit
attribute [local go_sem] GW.cell GW.frozen In.eq_true In.le_true In.ne In.ne' In.ne_add In.ne_add' In.lt_add Upto.le_true Upto.le_add Upto.lt_add Oper.semAt_some wide_depth wide_fn
def begS (l : List Jp) (a b : Int) : Int := ((l.filter fun j => decide (a ≤ j.1) && decide (j.1 < b)).map Prod.snd).sum
/-- What begins in a window. -/
def begN (J : List Jp) (a b : Int) : Int := begS (incL J) a b
theorem begS_next {l : List Jp} {m : Nat} {j : Jp} (h : l[m]? = some j) (a b : Int) : begS (l.take (m + 1)) a b = begS (l.take m) a b + (if a ≤ j.1 ∧ j.1 < b then j.2 else 0) := by
  unfold begS
  rw [List.take_add_one, h, Option.toList_some, List.filter_append, List.map_append, List.sum_append]
  congr 1
  by_cases h1 : a ≤ j.1 <;> by_cases h2 : j.1 < b <;> simp [h1, h2]
theorem begS_in {l : List Jp} (hb : ∀ j ∈ l, 0 < j.2 ∧ j.2 ≤ 1048576) (a b : Int) : ∀ m, m ≤ l.length → 0 ≤ begS (l.take m) a b ∧ begS (l.take m) a b ≤ 1048576 * m
  | 0, _ => by simp [begS]
  | m + 1, h => by
    obtain ⟨j, hj⟩ : ∃ j, l[m]? = some j := ⟨_, List.getElem?_eq_getElem (by omega)⟩
    have h1 := begS_in hb a b m (by omega)
    have h2 := hb j (List.mem_of_getElem? hj)
    rw [begS_next hj]
    split <;> omega
theorem incL_net {J : List Jp} (hm : mayJ J = true) : ∀ j ∈ incL J, 0 < j.2 ∧ j.2 ≤ 1048576 := fun j hj => by
  unfold incL at hj
  obtain ⟨h1, h2⟩ := List.mem_filter.1 hj
  have := mayJ_net hm j h1
  simp at h2
  omega
abbrev IBe (w : World) (b3 b5 bj : Nat) (fv : Value) (J : List Jp) (a b : Int) (m : Nat) (W : World) : Prop :=
  (Ob W b5 3 [.int .i64 (begS ((incL J).take m) a b)] ∧ Ob W b3 49 [.int .i64 a, .int .i64 b]) ∧ ((Ob W bj 73 [fv] ∧ OwnJ W 0 fv J) ∧ Ext w W)
set_option maxHeartbeats 8000000 in
set_option maxRecDepth 100000 in
theorem begun_c (J : List Jp) (hm : mayJ J = true) (a b : Int) (v : Value) (w : World) (hJ : OwnJ w 0 v J) : Calls Tryz.prog 139 #[v, .agg #[.int .i64 a, .int .i64 b]] w fun e w' => e = .returned (.int .i64 (begN J a b)) ∧ Ext w w' := by
  have hJl : J.length ≤ 1024 := mayJ_len hm
  have hnet := hide (incL_net hm)
  have hil := incL_len J
  have hin := hide (begS_in (incL_net hm) a b)
  obtain ⟨JA, jcap, rfl⟩ := own_form hJ
  have hinc := hide (increases_c (.slice JA J.length jcap) J.length jcap JA rfl)
  have hJ' := hide hJ
  have hm' := hide hm
  clear hJ hm
  refine calls_marks Tryz.func139 rfl ?_
  simp only [Tryz.ntmps139, List.size_toArray, List.length_cons, List.length_nil, Nat.reduceAdd, Nat.reduceSub, Array.replicate_succ, Array.replicate_zero, List.push_toArray, List.append_toArray, List.nil_append, List.cons_append]
  go_wp2_with (go_at_call 171; refine (hinc.out _).mono ?_; rintro ee w1 ⟨rfl, pj, hX1⟩)
  have p3 : Ob w1 w.heap.size 49 [.int .i64 a, .int .i64 b] := (((Ob.new w 49 [.int .i64 a, .int .i64 b]).alloc _)).ext hX1
  have p5 : Ob w1 (w.heap.size + 1) 3 [.int .i64 0] := by
    have h := Ob.new (w.alloc (.cells #[.int .i64 a, .int .i64 b] 49)) 3 [.int .i64 0]
    rw [World.size_alloc] at h
    exact h.ext hX1
  have hXw : Ext w w1 := (((Ext.refl w).alloc _).alloc _).trans hX1
  rw [World.size_alloc, World.size_alloc] at pj
  have hzw := hXw.size
  have l3 := p3.lt
  have l5 := p5.lt
  have lj := pj.lt
  obtain ⟨b3, hb3⟩ : ∃ b3, b3 = w.heap.size := ⟨_, rfl⟩
  rw [← hb3] at p3 p5 pj l3 l5 lj ⊢
  obtain ⟨b5, hb5⟩ : ∃ b5, b5 = b3 + 1 := ⟨_, rfl⟩
  rw [← hb5] at p5 pj l5 lj ⊢
  obtain ⟨bj, hbj⟩ : ∃ bj, bj = b5 + 1 := ⟨_, rfl⟩
  rw [← hbj] at pj lj ⊢
  obtain ⟨i3, i5, ij⟩ : w.heap.size ≤ b3 ∧ b3 < b5 ∧ b5 < bj := by omega
  clear hb3 hb5 hbj hX1
  refine wp_rangeJ (xs := incL J) (Kp := KpI bj (.slice JA J.length jcap) J) rfl (enters_of Tryz.func199 (by kernel_rfl) rfl) (increases_seqj J (by omega) (.slice JA J.length jcap) w1 bj) (Ext.refl _) (fun x vs W h => by rw [h]; rfl) (fun x vs => Stab.pure _)
    (IBe w b3 b5 bj (.slice JA J.length jcap) J a b)
    (fun m A h => ⟨h.2.1.1, own_jw h.2.1.2 (by simp)⟩)
    (fun c m W => False)
    (fun m => ((Stab.ob _ _ _).and (Stab.ob _ _ _)).and (((Stab.ob _ _ _).and (Stab.own _ _ _ _ _ _)).and (Stab.of_ext hzw)))
    (fun c m => Stab.pure _)
    ⟨⟨p5, p3⟩, ⟨pj, own_ext hJ'.out hXw⟩, hXw⟩
    (fun m x vs a' W => ∃ b6, a' = { tmps := #[.slice JA J.length jcap, .agg #[.int .i64 a, .int .i64 b], undef, .pointer (some ⟨b3, 0, none⟩), .int .i64 0, .pointer (some ⟨b5, 0, none⟩), .pointer (some ⟨b6, 0, none⟩), .slice JA J.length jcap, .func (.func 199) #[] #[.pointer (some ⟨bj, 0, none⟩)], .agg #[.int .i64 x.1, .int .i64 x.2], undef, undef, undef, undef, undef, undef, undef, undef, undef, undef, undef, undef, undef, undef, undef, undef, undef], defers := [] } ∧ Ob W b6 125 [.int .i64 x.1, .int .i64 x.2])
    (fun m x vs a' => Stab.ex fun b6 => (Stab.pure _).and (Stab.ob _ _ _)) ?assign ?body ?done ?stop
  case assign =>
    rintro L2 m ⟨x, y⟩ vs W3 K hI3 rfl hK3
    gi_wp2
    exact hK3 _ _ ((Ext.refl W3).alloc _) ⟨W3.heap.size, rfl, Ob.new W3 _ [_, _]⟩
  case stop =>
    rintro D c m W hD hm2 h
    exact h.elim
  case body =>
    rintro L2 m ⟨x, y⟩ vs a' W4 hx2 ⟨⟨z5, z3⟩, ⟨zj, hf⟩, hX4⟩ rfl ⟨b6, rfl, z6⟩
    have hml : m < (incL J).length := (List.getElem?_eq_some_iff.1 hx2).1
    have hnx := hide (begS_next hx2 a b)
    have hy := hnet.out _ (List.mem_of_getElem? hx2)
    have hbd := hin.out m (by omega)
    simp only at hy z6
    obtain ⟨N, hN⟩ : ∃ N, N = begS ((incL J).take m) a b := ⟨_, rfl⟩
    rw [← hN] at z5 hbd hnx
    have k5 := z5.cell 0 rfl
    have f5 := z5.free 0
    have m5 := z5.lt
    have k30 := z3.cell 0 rfl
    have k31 := z3.cell 1 rfl
    have m3 := z3.lt
    have k60 := z6.cell 0 rfl
    have k61 := z6.cell 1 rfl
    have m6 := z6.lt
    haveI : In b5 W4 := ⟨m5⟩
    haveI : In b3 W4 := ⟨m3⟩
    haveI : In b6 W4 := ⟨m6⟩
    have z5' := hide z5
    have z3' := hide z3
    have zj' := hide zj
    have hf' := hide hf
    have hX4' := hide hX4
    replace hx2 := hide hx2
    replace hN := hide hN
    clear z5 z3 zj hf hX4 z6
    by_cases c1 : a ≤ x
    · by_cases c2 : x < b
      · gi_wp2_with fail
        have hF : Fr [b5] W4 (W4.setCell ⟨b5, 0, none⟩ (.int .i64 (N + y))) := (Fr.refl [b5] W4).setCell ⟨b5, 0, none⟩ _ (.inl (by simp))
        refine ⟨keeps_fr hF (fun q hq => by rw [List.mem_singleton] at hq; subst hq; exact ⟨_, _, z5'.out⟩), ⟨?_, z3'.out.far ⟨b5, 0, none⟩ _ (by show b3 ≠ b5; omega)⟩, ⟨zj'.out.far ⟨b5, 0, none⟩ _ (by show bj ≠ b5; omega), own_away hf'.out hF (fun q hq hm => ?_)⟩, hX4'.out.setCell (p := ⟨b5, 0, none⟩) (by show w.heap.size ≤ b5; omega) _⟩
        · rw [hnx.out, if_pos ⟨c1, c2⟩]
          exact z5'.out.set 0 _
        · rw [List.mem_singleton] at hq
          subst hq
          obtain ⟨ds, d, hd⟩ := own_kind hf'.out hm
          exact no_kind z5'.out (by decide) ds d hd
      · gi_wp2_with fail
        exact ⟨keeps_ext (Ext.refl _), ⟨by rw [hnx.out, if_neg (by show ¬ (_ ∧ _); omega), Int.add_zero]; exact z5'.out, z3'.out⟩, ⟨zj'.out, hf'.out⟩, hX4'.out⟩
    · gi_wp2_with fail
      exact ⟨keeps_ext (Ext.refl _), ⟨by rw [hnx.out, if_neg (by show ¬ (_ ∧ _); omega), Int.add_zero]; exact z5'.out, z3'.out⟩, ⟨zj'.out, hf'.out⟩, hX4'.out⟩
  case done =>
    rintro D W hD ⟨⟨z5, z3⟩, -, hX4⟩ hK
    rw [List.take_length] at z5
    have k5 := z5.cell 0 rfl
    have m5 := z5.lt
    haveI : In b5 W := ⟨m5⟩
    have hX4' := hide hX4
    have hK' := hide hK
    clear z5 z3 hX4 hK
    go_wp2_with fail
    exact ret_mark hK'.out (v := .int .i64 (begN J a b)) (by simp [results, Tryz.f139, go_sem]; rfl) ⟨rfl, put_ext hX4'.out (by omega) _⟩
end Go.Proofs.YtljkneajdndgjaaGreat
set_option linter.unusedVariables false
set_option linter.unusedSimpArgs false
namespace Go.Proofs.YtljkneajdndgjaaGreat
open Go.RowKit
attribute [local go_sem] GW.cell GW.frozen In.eq_true In.le_true In.ne In.ne' In.ne_add In.ne_add' In.lt_add Upto.le_true Upto.le_add Upto.lt_add
theorem run_add_i64 {P : Program} {t : TypeId} (ht : P.underlying t = some (.int .i64)) (n m r : Int) (hr : n + m = r) (h : -9223372036854775808 ≤ r ∧ r ≤ 9223372036854775807) (w : World) : (binOp .add t (.int .i64 n) (.int .i64 m)).run P w = .ok (.int .i64 r) w := by
  subst hr
  have := IntWalk.i64_in _ h
  simp [go_sem, ht, this]
set_option maxHeartbeats 4000000 in
set_option maxRecDepth 100000 in
theorem life_c (g o m cap : Nat) (x y : Int) (hnl : m ≤ 64) (hy : -1 ≤ y ∧ y ≤ 1125899906842624) (w : World) (hg : g < w.heap.size) (k0 : w.cell? ⟨g, o, none⟩ = some (.int .i64 x)) (k1 : w.cell? ⟨g, o + m, none⟩ = some (.int .i64 y)) : Calls Tryz.prog 93 #[.slice (some ⟨g, o, none⟩) (m + 1) cap] w fun e w' => e = .returned (.agg #[.int .i64 x, .int .i64 (y + 1)]) ∧ Ext w w' := by
  haveI : In g w := ⟨hg⟩
  have hn1 : (0 : Int) < (m : Int) + 1 := by omega
  have hn2 : 0 < m + 1 := by omega
  have hn3 : m < m + 1 := by omega
  have hn4 : (m : Int) < (m : Int) + 1 := by omega
  replace k0 := cell_later ((Ext.refl w).alloc (.cells #[.int .i64 0, .int .i64 0] 49)) k0
  replace k1 := cell_later ((Ext.refl w).alloc (.cells #[.int .i64 0, .int .i64 0] 49)) k1
  replace k0 := hide k0
  replace k1 := hide k1
  have o0 := hide (Ob.new w 49 [.int .i64 0, .int .i64 0])
  refine calls_marks Tryz.func93 rfl ?_
  simp only [Tryz.ntmps93, List.size_toArray, List.length_cons, List.length_nil, Nat.reduceAdd, Nat.reduceSub, Array.replicate_succ, Array.replicate_zero, List.push_toArray, List.append_toArray, List.nil_append, List.cons_append]
  go_wp2_with fail
  refine wp_region_list_tail 11 [(.is ((.slice (some ⟨g, o, none⟩) (m + 1) cap))), (.is ((.pointer (some ⟨g, o, none⟩)))), (.is ((.int .i64 x))), (.is ((.slice (some ⟨g, o, none⟩) (m + 1) cap))), (.is ((.slice (some ⟨g, o, none⟩) (m + 1) cap))), (.is ((.int .i64 ((m + 1 : Nat) : Int)))), (.is ((.int .i64 (m : Int)))), (.is ((.pointer (some ⟨g, o + m, none⟩)))), (.is ((.int .i64 y))), (.is ((.int .i64 (y + 1)))), (.is ((.agg #[.int .i64 x, .int .i64 (y + 1)])))] (by kernel_rfl) (by kernel_rfl) (by kernel_rfl) (by kernel_rfl) (by kernel_rfl) (by kernel_rfl) (by kernel_rfl) ?_ ?_
  · refine ⟨?_, ?_, ?_, ?_, ?_, ?_, ?_, ?_, ?_, ?_, ?_, trivial⟩
    · intro b w' h hE
      have f0 : b.tmps.getD 0 undef = (.slice (some ⟨g, o, none⟩) (m + 1) cap) := hE 0 (of_decide_eq_true (by kernel_rfl))
      exact good_move (wanted_none rfl) rfl f0
    · intro b w' h hE
      have f3 : b.tmps.getD 3 undef = (.slice (some ⟨g, o, none⟩) (m + 1) cap) := h.dep 0 _ 3 (by kernel_rfl) rfl rfl
      exact good_index (wanted_none rfl) rfl f3 rfl (by simp [go_sem, hn1, hn2, hn3, hn4]) rfl
    · intro b w' h hE
      have f4 : b.tmps.getD 4 undef = (.pointer (some ⟨g, o, none⟩)) := h.dep 1 _ 4 (by kernel_rfl) rfl rfl
      have c0 := cell_later h.ext k0.out
      exact good_load (wanted_none rfl) rfl f4 (by simp [go_sem, c0]) rfl
    · intro b w' h hE
      have f0 : b.tmps.getD 0 undef = (.slice (some ⟨g, o, none⟩) (m + 1) cap) := hE 0 (of_decide_eq_true (by kernel_rfl))
      exact good_move (wanted_none rfl) rfl f0
    · intro b w' h hE
      have f0 : b.tmps.getD 0 undef = (.slice (some ⟨g, o, none⟩) (m + 1) cap) := hE 0 (of_decide_eq_true (by kernel_rfl))
      exact good_move (wanted_none rfl) rfl f0
    · intro b w' h hE
      have f7 : b.tmps.getD 7 undef = (.slice (some ⟨g, o, none⟩) (m + 1) cap) := h.dep 4 _ 7 (by kernel_rfl) rfl rfl
      exact good_len (wanted_none rfl) rfl rfl f7 rfl
    · intro b w' h hE
      have f8 : b.tmps.getD 8 undef = (.int .i64 ((m + 1 : Nat) : Int)) := h.dep 5 _ 8 (by kernel_rfl) rfl rfl
      exact good_bin (wanted_none rfl) rfl f8 rfl (by rfl) (run_sub_i64 Tryz.underlying3 _ _ _ (by omega) (by omega) _) rfl
    · intro b w' h hE
      have f6 : b.tmps.getD 6 undef = (.slice (some ⟨g, o, none⟩) (m + 1) cap) := h.dep 3 _ 6 (by kernel_rfl) rfl rfl
      have f9 : b.tmps.getD 9 undef = (.int .i64 (m : Int)) := h.dep 6 _ 9 (by kernel_rfl) rfl rfl
      exact good_index (wanted_none rfl) rfl f6 f9 (by simp [go_sem, hn1, hn2, hn3, hn4]) rfl
    · intro b w' h hE
      have f10 : b.tmps.getD 10 undef = (.pointer (some ⟨g, o + m, none⟩)) := h.dep 7 _ 10 (by kernel_rfl) rfl rfl
      have c0 := cell_later h.ext k1.out
      exact good_load (wanted_none rfl) rfl f10 (by simp [go_sem, c0]) rfl
    · intro b w' h hE
      have f11 : b.tmps.getD 11 undef = (.int .i64 y) := h.dep 8 _ 11 (by kernel_rfl) rfl rfl
      exact good_bin (wanted_none rfl) rfl f11 rfl (by rfl) (run_add_i64 Tryz.underlying3 _ _ _ rfl (by omega) _) rfl
    · intro b w' h hE
      have f5 : b.tmps.getD 5 undef = (.int .i64 x) := h.dep 2 _ 5 (by kernel_rfl) rfl rfl
      have g5 : b.tmps[5]?.getD undef = (.int .i64 x) := by rw [← Array.getD_eq_getD_getElem?]; exact f5
      have f12 : b.tmps.getD 12 undef = (.int .i64 (y + 1)) := h.dep 9 _ 12 (by kernel_rfl) rfl rfl
      have g12 : b.tmps[12]?.getD undef = (.int .i64 (y + 1)) := by rw [← Array.getD_eq_getD_getElem?]; exact f12
      exact good_run (wanted_none rfl) (by simp [execOp, Act.eval, go_sem, g5, g12, Sem.run_bind, Sem.run_pure, Result.andThen_ok]) rfl
  · intro b w2 hX2 hd hz he' hf
    have e3 : b.tmps.getD 3 undef = (.slice (some ⟨g, o, none⟩) (m + 1) cap) := hf 0 _ 3 (by omega) rfl rfl
    have e4 : b.tmps.getD 4 undef = (.pointer (some ⟨g, o, none⟩)) := hf 1 _ 4 (by omega) rfl rfl
    have e5 : b.tmps.getD 5 undef = (.int .i64 x) := hf 2 _ 5 (by omega) rfl rfl
    have e6 : b.tmps.getD 6 undef = (.slice (some ⟨g, o, none⟩) (m + 1) cap) := hf 3 _ 6 (by omega) rfl rfl
    have e7 : b.tmps.getD 7 undef = (.slice (some ⟨g, o, none⟩) (m + 1) cap) := hf 4 _ 7 (by omega) rfl rfl
    have e8 : b.tmps.getD 8 undef = (.int .i64 ((m + 1 : Nat) : Int)) := hf 5 _ 8 (by omega) rfl rfl
    have e9 : b.tmps.getD 9 undef = (.int .i64 (m : Int)) := hf 6 _ 9 (by omega) rfl rfl
    have e10 : b.tmps.getD 10 undef = (.pointer (some ⟨g, o + m, none⟩)) := hf 7 _ 10 (by omega) rfl rfl
    have e11 : b.tmps.getD 11 undef = (.int .i64 y) := hf 8 _ 11 (by omega) rfl rfl
    have e12 : b.tmps.getD 12 undef = (.int .i64 (y + 1)) := hf 9 _ 12 (by omega) rfl rfl
    have e13 : b.tmps.getD 13 undef = (.agg #[.int .i64 x, .int .i64 (y + 1)]) := hf 10 _ 13 (by omega) rfl rfl
    have e := frame_puts hd hz he'
    obtain ⟨X, hXx⟩ : ∃ X : Nat → Value, ∀ d, b.tmps.getD d undef = X d := ⟨_, fun _ => rfl⟩
    rw [hXx] at e3 e4 e5 e6 e7 e8 e9 e10 e11 e12 e13
    rw [show dstsOf _ = [3, 4, 5, 6, 7, 8, 9, 10, 11, 12, 13] from rfl] at e
    simp only [List.foldl_cons, List.foldl_nil, hXx, Act.put, List.setIfInBounds_toArray, List.set_cons_succ, List.set_cons_zero] at e
    rw [e3, e4, e5, e6, e7, e8, e9, e10, e11, e12, e13] at e
    clear hf he' hz hd hXx e3 e4 e5 e6 e7 e8 e9 e10 e11 e12 e13
    subst e
    have hzw := hX2.size
    simp only [List.drop_succ_cons, List.drop_zero]
    have o2 := o0.out.ext hX2
    have z0 := o2.cell 0 rfl
    have z1 := o2.cell 1 rfl
    have y0 := o2.free 0
    have y1 := o2.free 1
    have ll := o2.lt
    (haveI : In w.heap.size w2 := ⟨ll⟩)
    replace o2 := hide o2
    replace hX2 := hide hX2
    have i0 : In w.heap.size w2 := ⟨ll⟩
    go_wp2_with fail
    have q2 := (o2.out.set 0 (.int .i64 x)).set 1 (.int .i64 (y + 1))
    have u0 := q2.cell 0 rfl
    have u1 := q2.cell 1 rfl
    exact ret_plain (v := .agg #[.int .i64 x, .int .i64 (y + 1)]) (by simp [results, Tryz.f93, go_sem, u0, u1]) ⟨rfl, ((((Ext.refl w).alloc _).trans hX2.out).setCell (p := ⟨w.heap.size, 0, none⟩) (Nat.le_refl _) _).setCell (p := ⟨w.heap.size, 1, none⟩) (Nat.le_refl _) _⟩
end Go.Proofs.YtljkneajdndgjaaGreat
set_option linter.unusedVariables false
set_option linter.unusedSimpArgs false
namespace Go.Proofs.YtljkneajdndgjaaGreat
open Go.RowKit
attribute [local go_sem] GW.cell GW.frozen In.eq_true In.le_true In.ne In.ne' In.ne_add In.ne_add' In.lt_add Upto.le_true Upto.le_add Upto.lt_add
theorem tGs : ElemT Tryz.prog 119 78 (.slice none 0 0) 1 24 := ElemT.mk' Tryz.underlying119 (by kernel_rfl) rfl (by omega)
/-- So many starts, from the i-th on. -/
def gv (g o n i : Nat) : Value := .slice (some ⟨g, o + i, none⟩) n n
def gvs (g o n K : Nat) : List Value := (List.range K).map fun i => gv g o n i
theorem gvs_next (g o n K : Nat) : gvs g o n (K + 1) = gvs g o n K ++ [gv g o n K] := by unfold gvs; rw [List.range_succ, List.map_append]; rfl
set_option maxHeartbeats 4000000 in
set_option maxRecDepth 100000 in
theorem groupsOf_c (g o N cap n : Nat) (hn : 1 ≤ n ∧ n ≤ 64) (hN : N ≤ cap) (hNl : N ≤ 4194304) (hcap : cap ≤ maxLen) (w : World) : Calls Tryz.prog 92 #[.slice (some ⟨g, o, none⟩) N cap, .int .i64 n] w fun e w' => ∃ v', e = .returned v' ∧ w'.ownsRow w.heap.size 78 1 v' (N + 1 - n) (gvs g o n (N + 1 - n)) ∧ Ext w w' := by
  obtain ⟨n1, n2⟩ := hn
  unfold maxLen at hcap
  go_enter Tryz.func92, Tryz.ntmps92
  go_wp2_with fail
  go_loopg [5, 6] (N + 1) (fun gh u i wr => ∃ (k : Nat), i = .int .i64 k ∧ k + gh = N + 1 ∧ k ≤ N + 1 - n ∧ Hid (wr.ownsRow w.heap.size 78 1 u k (gvs g o n k)) ∧ Hid (Ext w wr))
  case atStart => exact ⟨0, by go_num, by omega, by omega, World.ownsRow_nil _ _ _ _, Ext.refl _⟩
  case round =>
    obtain ⟨k, rfl, hk, hkn, hO, hX⟩ := hrel
    obtain ⟨UA, ucap, rfl⟩ := own_form hO.out
    have hobU := ob_ge hO.out
    have hzw := hX.out.size
    by_cases hlt : k + n ≤ N
    · have h1 : (k : Int) + (n : Int) ≤ (N : Int) := by omega
      have h2 : (k : Int) ≤ (k : Int) + (n : Int) := by omega
      have h3 : (k : Int) + (n : Int) ≤ (cap : Int) := by omega
      have hO1 := hide hO.out
      go_wp2_with (at_builtin; refine wpl_app tGs rfl (.tmp 15) (.tmp 25) rfl rfl (own_ext hO1.out ((Ext.refl wr).alloc _)) rfl (src_one Tryz.underlying119 wr _ _ rfl) (by unfold maxLen; omega) (by omega) (by simp only [World.size_alloc]; omega) ?_; intro v8 w8 ho8 hg8 hob8; have ho9 := hide ho8; have hg9 := hide hg8; obtain ⟨A8, c8, q8⟩ := own_form ho8; subst q8; clear ho8 hg8 hob8)
      have hF9 : Fr (ob (.slice UA k ucap)) wr w8 := ((Fr.refl _ _).alloc _).grown hg9.out (fun j hj => .inl (Option.mem_toList.2 hj))
      go_roundg (N + 1 - (k + 1))
      case measure => omega
      case rel => exact ⟨k + 1, by go_num, by omega, by omega, (by show World.ownsRow _ _ _ _ _ _ _; rw [gvs_next]; exact ho9.out), ext_fr hX.out hF9 (fun y hy => (hobU y hy).1)⟩
    · have hkc : k = N + 1 - n := by omega
      go_wp2_with fail
      go_returns
      exact ⟨_, rfl, by rw [← hkc]; exact hO.out, hX.out⟩
end Go.Proofs.YtljkneajdndgjaaGreat
set_option linter.unusedVariables false
set_option linter.unusedSimpArgs false
namespace Go.Proofs.YtljkneajdndgjaaGreat
open Go.RowKit
attribute [local go_sem] GW.cell GW.frozen In.eq_true In.le_true In.ne In.ne' In.ne_add In.ne_add' In.lt_add Upto.le_true Upto.le_add Upto.lt_add
def GrPostX (w : World) (L : List Ve) (b : Nat) (w' : World) : Prop := ∃ v' M, Ob w' b 25 [v'] ∧ eds M = (if mayE (eds L) then eds L else []) ∧ (∀ X : List Nat, (∀ b ∈ X, b < w.heap.size) → Ew w' X v' M) ∧ Ext w w'
set_option maxHeartbeats 8000000 in
set_option maxRecDepth 100000 in
theorem groups_d (L : List Ve) (v : Value) (w : World) (hC : Ew w [] v L) : Calls Tryz.prog 106 #[v] w fun e w' => ∃ b, e = .returned (.func (.func 146) #[] #[.pointer (some ⟨b, 0, none⟩)]) ∧ GrPostX w L b w' := by
  have h1 := hide (fun w' (hX : Ext w w') => edgeMay_c L v w' (hC.ext hX))
  have hC' := hide hC
  obtain ⟨A, cap, rfl, hlc, hlm, -⟩ := ew_form hC
  have a3 : Ob (w.alloc (.cells #[.slice none 0 0] 25)) w.heap.size 25 [.slice none 0 0] := Ob.new w 25 [.slice none 0 0]
  have hX0 := hide ((Ext.refl w).alloc (.cells #[.slice none 0 0] 25))
  replace a3 := hide a3
  clear hC
  cases ha : mayE (eds L)
  · rw [ha] at h1
    go_enter Tryz.func106, Tryz.ntmps106
    go_wp2_with (go_at_call 45; (with_reducible refine seq_gw (h1.out _ hX0.out) ?_); intro g)
    go_returns
    exact ⟨_, rfl, show GrPostX _ _ _ _ from ⟨_, [], a3.out.ext g.grown, by rw [ha]; rfl, fun X _ => ⟨Sl.nil _ _ _, by simp⟩, hX0.out.trans g.grown⟩⟩
  · rw [ha] at h1
    have hll : L.length ≤ 8192 := by have := mayE_len ha; simp [eds] at this; omega
    have hG := hide (show ∀ g ∈ grp (eds L), g.1.length ≤ 8 ∧ g.2.length ≤ 1024 from fun g hg => ⟨grp_r8 ha g hg, mayJ_len ((mayE_iff.1 ha).2.2 g hg)⟩)
    have hcp := hide (fun w' (hX : Ext w w') => copies_c L (.slice A L.length cap) w' (hC'.out.ext hX) hll hG.out)
    have ha' := hide ha
    clear ha
    go_enter Tryz.func106, Tryz.ntmps106
    go_wp2_with (first
      | (go_at_call 45; (with_reducible refine seq_gw (h1.out _ hX0.out) ?_); intro g)
      | (go_at_call 145; refine (hcp.out _ (hX0.out.trans g.grown)).mono ?_; rintro ee w2 ⟨v2, M, rfl, hM, ho2, hx2⟩; have o3 := (a3.out.ext g.grown).ext hx2; have hlt3 := o3.lt; have hc3 := o3.cell 0 rfl; have hfr3 := o3.free 0; obtain ⟨C2, c2, q2⟩ := own_form ho2.1; subst q2; haveI : In w.heap.size w2 := ⟨hlt3⟩))
    go_returns
    have hlg : w.heap.size < g.val.heap.size := by have := (a3.out.ext g.grown).lt; exact this
    have he : ∀ X : List Nat, (∀ b ∈ X, b < w.heap.size) → Ew w2 (w.heap.size :: X) (.slice C2 M.length c2) M := fun X hXl => by
      have hlt2 : ∀ x ∈ w.heap.size :: X, x < g.val.heap.size := fun x hx => by
        rcases List.mem_cons.1 hx with rfl | hx
        · exact hlg
        · have := hXl x hx; omega
      exact ⟨Sl.own ho2.1 (fun x hx => hlt2 x hx), fun p hp => Sl.less (ho2.2 p hp) (fun x hx => List.mem_append_right _ (List.mem_range.2 (hlt2 x hx)))⟩
    refine ⟨_, rfl, show GrPostX _ _ _ _ from ⟨_, M, o3.set 0 _, by rw [hM, ha'.out]; rfl, fun X hXl => ((he X hXl).fr ((Fr.refl [w.heap.size] w2).setCell ⟨w.heap.size, 0, none⟩ _ (.inl (by simp))) (fun b hb => by rw [List.mem_singleton] at hb; subst hb; exact List.mem_cons_self)).less (fun b hb => List.mem_cons_of_mem _ hb), ((hX0.out.trans g.grown).trans hx2).setCell (p := ⟨w.heap.size, 0, none⟩) (by simp) _⟩⟩
section
variable {P : Program} {ops : Array Oper} {Q : Exit → Act → World → Prop} {a : Act}
theorem wpIn_region_list_once {l m id : Nat} {w : World} {G : World → World → Prop} (n k0 : Nat) (L : List Fact) (hdf : ops.toList.all noDefer = true) (hGe : ∀ x y, Ext x y → G x y) (hGt : ∀ x y z, G x y → G y z → G x z) (hstk : ∀ j v w w', j ≠ k0 → depB ops j k0 = false → factsOf L j v w → G w w' → factsOf L j v w') (hm : P.follows .mixedOrders = true) (hA : acycB ops = true) (hD : dstsB ops a.tmps.size = true)
    (hn : decide (n < ops.size) = true) (hs : Region.sinkB .any ops n = true) (hc : Region.chainB .any ops n = true) (hq : Region.seqB .any ops (ops.size - n) n (Array.replicate n true ++ Array.replicate (ops.size - n) false) = true)
    (hstep : RSteps (fun k o => ∀ b w', RAtO ops (factsOf L) G k0 a w k b w' → (∀ t, t ∉ dstsOf (ops.toList.take n).toArray → b.tmps.getD t undef = a.tmps.getD t undef) → RGoodO P ops (factsOf L) G (onlyN Q) k0 k o b w') 0 (ops.toList.take n))
    (hend : ∀ b w', G w w' → b.defers = a.defers → b.tmps.size = a.tmps.size → (∀ t, t ∉ dstsOf (ops.toList.take n).toArray → b.tmps.getD t undef = a.tmps.getD t undef) →
      (∀ j o d, j < n → ops[j]? = some o → o.dst = some d → factsOf L j (b.tmps.getD d undef) w') → wpList P ops (onlyN Q) (ops.toList.drop n) b w') : (Code.region id ops true).wpIn (Fence.wide.inRound l) m P Q a w := by
  have hn' := of_decide_eq_true hn
  have hd : ∀ (i : Nat) (o : Oper), ops[i]? = some o → noDefer o = true := fun i o ho => List.all_eq_true.1 hdf o (List.mem_of_getElem? (by rw [Array.getElem?_toList]; exact ho))
  refine wpIn_region_any hm (anyIn_of_any hd _ _ _ _ ?_)
  have := wpAny_facts_once (P := P) (Φ := factsOf L) (Q := onlyN Q) (W := w) (G := G) (k0 := k0) hGe hGt hA hD hn' hs hc hq (fun i v w w' h hx => Fact.stays _ v w w' h hx) hstk (fun i o hi ho b w' h hE => by
    have := RSteps.get 0 (ops.toList.take n) hstep i o (by rw [List.getElem?_take, if_pos hi]; simpa using ho) b w'
    rw [Nat.zero_add] at this
    exact this h hE) (fun b w' h1 h2 h3 _ h5 h6 => hend b w' h1 h2 h3 h6 h5) n (Array.replicate ops.size false) a { w with drawn := w.drawn + 1 } ⟨hGe _ _ (Ext.refl w).drew, fun _ => (Ext.refl w).drew, rfl, rfl, by simp, fun _ _ => rfl, fun j o d ho hl _ => ?_⟩ (fun _ _ => rfl)
    ⟨by simp, fun j oj _ hl => (by rw [getD_replicate_false] at hl; cases hl), fun t _ ht => getD_in (by simpa using ht) (getD_replicate_false _ _)⟩ (by
      rw [Array.toList_replicate, List.take_replicate, cntF_rep]; omega)
  · rwa [show n + (ops.size - n) = ops.size by omega] at this
  · rw [getD_replicate_false] at hl; cases hl
end
end Go.Proofs.YtljkneajdndgjaaGreat
