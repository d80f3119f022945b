/-
  A helper of ours: no claim of its own. Layer 29 (counts): each n starts that follow one another, by the code.
-/
import Derived.Test.YtljkneajdndgjaaCouC
import Derived.Test.YtljkneajdndgjaaStepR
set_option linter.unusedVariables false
set_option linter.unusedSimpArgs false
namespace Go.Proofs.Ytljkneajdndgjaa
open Go.RowKit
attribute [local go_sem] GW.cell GW.frozen In.eq_true In.le_true In.ne In.ne' In.ne_add In.ne_add' In.lt_add Upto.le_true Upto.le_add Upto.lt_add Oper.semAt_some wide_depth wide_fn
def begS (l : List Jp) (a b : Int) : Int := ((l.filter fun j => decide (a ≤ j.1) && decide (j.1 < b)).map Prod.snd).sum
/-- What begins in a window. -/
def begN (J : List Jp) (a b : Int) : Int := begS (incL J) a b
theorem begS_next {l : List Jp} {m : Nat} {j : Jp} (h : l[m]? = some j) (a b : Int) : begS (l.take (m + 1)) a b = begS (l.take m) a b + (if a ≤ j.1 ∧ j.1 < b then j.2 else 0) := by
  unfold begS
  rw [List.take_add_one, h, Option.toList_some, List.filter_append, List.map_append, List.sum_append]
  congr 1
  by_cases h1 : a ≤ j.1 <;> by_cases h2 : j.1 < b <;> simp [h1, h2]
theorem begS_in {l : List Jp} (hb : ∀ j ∈ l, 0 < j.2 ∧ j.2 ≤ 1048576) (a b : Int) : ∀ m, m ≤ l.length → 0 ≤ begS (l.take m) a b ∧ begS (l.take m) a b ≤ 1048576 * m
  | 0, _ => by simp [begS]
  | m + 1, h => by
    obtain ⟨j, hj⟩ : ∃ j, l[m]? = some j := ⟨_, List.getElem?_eq_getElem (by omega)⟩
    have h1 := begS_in hb a b m (by omega)
    have h2 := hb j (List.mem_of_getElem? hj)
    rw [begS_next hj]
    split <;> omega
theorem incL_net {J : List Jp} (hm : mayJ J = true) : ∀ j ∈ incL J, 0 < j.2 ∧ j.2 ≤ 1048576 := fun j hj => by
  unfold incL at hj
  obtain ⟨h1, h2⟩ := List.mem_filter.1 hj
  have := mayJ_net hm j h1
  simp at h2
  omega
abbrev IBe (w : World) (b3 b5 bj : Nat) (fv : Value) (J : List Jp) (a b : Int) (m : Nat) (W : World) : Prop :=
  (Ob W b5 3 [.int .i64 (begS ((incL J).take m) a b)] ∧ Ob W b3 41 [.int .i64 a, .int .i64 b]) ∧ ((Ob W bj 58 [fv] ∧ OwnJ W 0 fv J) ∧ Ext w W)
set_option maxHeartbeats 8000000 in
set_option maxRecDepth 100000 in
theorem begun_c (J : List Jp) (hm : mayJ J = true) (a b : Int) (v : Value) (w : World) (hJ : OwnJ w 0 v J) : Calls Try.prog 60 #[v, .agg #[.int .i64 a, .int .i64 b]] w fun e w' => e = .returned (.int .i64 (begN J a b)) ∧ Ext w w' := by
  have hJl : J.length ≤ 1024 := mayJ_len hm
  have hnet := hide (incL_net hm)
  have hil := incL_len J
  have hin := hide (begS_in (incL_net hm) a b)
  obtain ⟨JA, jcap, rfl⟩ := own_form hJ
  have hinc := hide (increases_c (.slice JA J.length jcap) J.length jcap JA rfl)
  have hJ' := hide hJ
  have hm' := hide hm
  clear hJ hm
  refine calls_marks Try.func60 rfl ?_
  simp only [Try.ntmps60, List.size_toArray, List.length_cons, List.length_nil, Nat.reduceAdd, Nat.reduceSub, Array.replicate_succ, Array.replicate_zero, List.push_toArray, List.append_toArray, List.nil_append, List.cons_append]
  go_wp2_with (go_at_call 23; refine (hinc.out _).mono ?_; rintro ee w1 ⟨rfl, pj, hX1⟩)
  have p3 : Ob w1 w.heap.size 41 [.int .i64 a, .int .i64 b] := (((Ob.new w 41 [.int .i64 a, .int .i64 b]).alloc _)).ext hX1
  have p5 : Ob w1 (w.heap.size + 1) 3 [.int .i64 0] := by
    have h := Ob.new (w.alloc (.cells #[.int .i64 a, .int .i64 b] 41)) 3 [.int .i64 0]
    rw [World.size_alloc] at h
    exact h.ext hX1
  have hXw : Ext w w1 := (((Ext.refl w).alloc _).alloc _).trans hX1
  rw [World.size_alloc, World.size_alloc] at pj
  have hzw := hXw.size
  have l3 := p3.lt
  have l5 := p5.lt
  have lj := pj.lt
  obtain ⟨b3, hb3⟩ : ∃ b3, b3 = w.heap.size := ⟨_, rfl⟩
  rw [← hb3] at p3 p5 pj l3 l5 lj ⊢
  obtain ⟨b5, hb5⟩ : ∃ b5, b5 = b3 + 1 := ⟨_, rfl⟩
  rw [← hb5] at p5 pj l5 lj ⊢
  obtain ⟨bj, hbj⟩ : ∃ bj, bj = b5 + 1 := ⟨_, rfl⟩
  rw [← hbj] at pj lj ⊢
  obtain ⟨i3, i5, ij⟩ : w.heap.size ≤ b3 ∧ b3 < b5 ∧ b5 < bj := by omega
  clear hb3 hb5 hbj hX1
  refine wp_rangeJ (xs := incL J) (Kp := KpI bj (.slice JA J.length jcap) J) rfl (enters_of Try.func53 (by kernel_rfl) rfl) (increases_seqj J (by omega) (.slice JA J.length jcap) w1 bj) (Ext.refl _) (fun x vs W h => by rw [h]; rfl) (fun x vs => Stab.pure _)
    (IBe w b3 b5 bj (.slice JA J.length jcap) J a b)
    (fun m A h => ⟨h.2.1.1, own_jw h.2.1.2 (by simp)⟩)
    (fun c m W => False)
    (fun m => ((Stab.ob _ _ _).and (Stab.ob _ _ _)).and (((Stab.ob _ _ _).and (Stab.own _ _ _ _ _ _)).and (Stab.of_ext hzw)))
    (fun c m => Stab.pure _)
    ⟨⟨p5, p3⟩, ⟨pj, own_ext hJ'.out hXw⟩, hXw⟩
    (fun m x vs a' W => ∃ b6, a' = { tmps := #[.slice JA J.length jcap, .agg #[.int .i64 a, .int .i64 b], undef, .pointer (some ⟨b3, 0, none⟩), .int .i64 0, .pointer (some ⟨b5, 0, none⟩), .pointer (some ⟨b6, 0, none⟩), .slice JA J.length jcap, .func (.func 53) #[] #[.pointer (some ⟨bj, 0, none⟩)], .agg #[.int .i64 x.1, .int .i64 x.2], undef, undef, undef, undef, undef, undef, undef, undef, undef, undef, undef, undef, undef, undef, undef, undef, undef], defers := [] } ∧ Ob W b6 63 [.int .i64 x.1, .int .i64 x.2])
    (fun m x vs a' => Stab.ex fun b6 => (Stab.pure _).and (Stab.ob _ _ _)) ?assign ?body ?done ?stop
  case assign =>
    rintro L2 m ⟨x, y⟩ vs W3 K hI3 rfl hK3
    gi_wp2
    exact hK3 _ _ ((Ext.refl W3).alloc _) ⟨W3.heap.size, rfl, Ob.new W3 _ [_, _]⟩
  case stop =>
    rintro D c m W hD hm2 h
    exact h.elim
  case body =>
    rintro L2 m ⟨x, y⟩ vs a' W4 hx2 ⟨⟨z5, z3⟩, ⟨zj, hf⟩, hX4⟩ rfl ⟨b6, rfl, z6⟩
    have hml : m < (incL J).length := (List.getElem?_eq_some_iff.1 hx2).1
    have hnx := hide (begS_next hx2 a b)
    have hy := hnet.out _ (List.mem_of_getElem? hx2)
    have hbd := hin.out m (by omega)
    simp only at hy z6
    obtain ⟨N, hN⟩ : ∃ N, N = begS ((incL J).take m) a b := ⟨_, rfl⟩
    rw [← hN] at z5 hbd hnx
    have k5 := z5.cell 0 rfl
    have f5 := z5.free 0
    have m5 := z5.lt
    have k30 := z3.cell 0 rfl
    have k31 := z3.cell 1 rfl
    have m3 := z3.lt
    have k60 := z6.cell 0 rfl
    have k61 := z6.cell 1 rfl
    have m6 := z6.lt
    haveI : In b5 W4 := ⟨m5⟩
    haveI : In b3 W4 := ⟨m3⟩
    haveI : In b6 W4 := ⟨m6⟩
    have z5' := hide z5
    have z3' := hide z3
    have zj' := hide zj
    have hf' := hide hf
    have hX4' := hide hX4
    replace hx2 := hide hx2
    replace hN := hide hN
    clear z5 z3 zj hf hX4 z6
    by_cases c1 : a ≤ x
    · by_cases c2 : x < b
      · gi_wp2_with fail
        have hF : Fr [b5] W4 (W4.setCell ⟨b5, 0, none⟩ (.int .i64 (N + y))) := (Fr.refl [b5] W4).setCell ⟨b5, 0, none⟩ _ (.inl (by simp))
        refine ⟨keeps_fr hF (fun q hq => by rw [List.mem_singleton] at hq; subst hq; exact ⟨_, _, z5'.out⟩), ⟨?_, z3'.out.far ⟨b5, 0, none⟩ _ (by show b3 ≠ b5; omega)⟩, ⟨zj'.out.far ⟨b5, 0, none⟩ _ (by show bj ≠ b5; omega), own_away hf'.out hF (fun q hq hm => ?_)⟩, hX4'.out.setCell (p := ⟨b5, 0, none⟩) (by show w.heap.size ≤ b5; omega) _⟩
        · rw [hnx.out, if_pos ⟨c1, c2⟩]
          exact z5'.out.set 0 _
        · rw [List.mem_singleton] at hq
          subst hq
          obtain ⟨ds, d, hd⟩ := own_kind hf'.out hm
          exact no_kind z5'.out (by decide) ds d hd
      · gi_wp2_with fail
        exact ⟨keeps_ext (Ext.refl _), ⟨by rw [hnx.out, if_neg (by show ¬ (_ ∧ _); omega), Int.add_zero]; exact z5'.out, z3'.out⟩, ⟨zj'.out, hf'.out⟩, hX4'.out⟩
    · gi_wp2_with fail
      exact ⟨keeps_ext (Ext.refl _), ⟨by rw [hnx.out, if_neg (by show ¬ (_ ∧ _); omega), Int.add_zero]; exact z5'.out, z3'.out⟩, ⟨zj'.out, hf'.out⟩, hX4'.out⟩
  case done =>
    rintro D W hD ⟨⟨z5, z3⟩, -, hX4⟩ hK
    rw [List.take_length] at z5
    have k5 := z5.cell 0 rfl
    have m5 := z5.lt
    haveI : In b5 W := ⟨m5⟩
    have hX4' := hide hX4
    have hK' := hide hK
    clear z5 z3 hX4 hK
    go_wp2_with fail
    exact ret_mark hK'.out (v := .int .i64 (begN J a b)) (by simp [results, Try.f60, go_sem]; rfl) ⟨rfl, put_ext hX4'.out (by omega) _⟩
end Go.Proofs.Ytljkneajdndgjaa
set_option linter.unusedVariables false
set_option linter.unusedSimpArgs false
namespace Go.Proofs.Ytljkneajdndgjaa
open Go.RowKit
attribute [local go_sem] GW.cell GW.frozen In.eq_true In.le_true In.ne In.ne' In.ne_add In.ne_add' In.lt_add Upto.le_true Upto.le_add Upto.lt_add
theorem run_add_i64 {P : Program} {t : TypeId} (ht : P.underlying t = some (.int .i64)) (n m r : Int) (hr : n + m = r) (h : -9223372036854775808 ≤ r ∧ r ≤ 9223372036854775807) (w : World) : (binOp .add t (.int .i64 n) (.int .i64 m)).run P w = .ok (.int .i64 r) w := by
  subst hr
  have := IntWalk.i64_in _ h
  simp [go_sem, ht, this]
set_option maxHeartbeats 4000000 in
set_option maxRecDepth 100000 in
theorem life_c (g o m cap : Nat) (x y : Int) (hnl : m ≤ 64) (hy : -1 ≤ y ∧ y ≤ 1125899906842624) (w : World) (hg : g < w.heap.size) (k0 : w.cell? ⟨g, o, none⟩ = some (.int .i64 x)) (k1 : w.cell? ⟨g, o + m, none⟩ = some (.int .i64 y)) : Calls Try.prog 32 #[.slice (some ⟨g, o, none⟩) (m + 1) cap] w fun e w' => e = .returned (.agg #[.int .i64 x, .int .i64 (y + 1)]) ∧ Ext w w' := by
  haveI : In g w := ⟨hg⟩
  have hn1 : (0 : Int) < (m : Int) + 1 := by omega
  have hn2 : 0 < m + 1 := by omega
  have hn3 : m < m + 1 := by omega
  have hn4 : (m : Int) < (m : Int) + 1 := by omega
  replace k0 := cell_later ((Ext.refl w).alloc (.cells #[.int .i64 0, .int .i64 0] 41)) k0
  replace k1 := cell_later ((Ext.refl w).alloc (.cells #[.int .i64 0, .int .i64 0] 41)) k1
  replace k0 := hide k0
  replace k1 := hide k1
  have o0 := hide (Ob.new w 41 [.int .i64 0, .int .i64 0])
  refine calls_marks Try.func32 rfl ?_
  simp only [Try.ntmps32, List.size_toArray, List.length_cons, List.length_nil, Nat.reduceAdd, Nat.reduceSub, Array.replicate_succ, Array.replicate_zero, List.push_toArray, List.append_toArray, List.nil_append, List.cons_append]
  go_wp2_with fail
  refine wp_region_list_tail 11 [(.is ((.slice (some ⟨g, o, none⟩) (m + 1) cap))), (.is ((.pointer (some ⟨g, o, none⟩)))), (.is ((.int .i64 x))), (.is ((.slice (some ⟨g, o, none⟩) (m + 1) cap))), (.is ((.slice (some ⟨g, o, none⟩) (m + 1) cap))), (.is ((.int .i64 ((m + 1 : Nat) : Int)))), (.is ((.int .i64 (m : Int)))), (.is ((.pointer (some ⟨g, o + m, none⟩)))), (.is ((.int .i64 y))), (.is ((.int .i64 (y + 1)))), (.is ((.agg #[.int .i64 x, .int .i64 (y + 1)])))] (by kernel_rfl) (by kernel_rfl) (by kernel_rfl) (by kernel_rfl) (by kernel_rfl) (by kernel_rfl) (by kernel_rfl) ?_ ?_
  · refine ⟨?_, ?_, ?_, ?_, ?_, ?_, ?_, ?_, ?_, ?_, ?_, trivial⟩
    · intro b w' h hE
      have f0 : b.tmps.getD 0 undef = (.slice (some ⟨g, o, none⟩) (m + 1) cap) := hE 0 (of_decide_eq_true (by kernel_rfl))
      exact good_move (wanted_none rfl) rfl f0
    · intro b w' h hE
      have f3 : b.tmps.getD 3 undef = (.slice (some ⟨g, o, none⟩) (m + 1) cap) := h.dep 0 _ 3 (by kernel_rfl) rfl rfl
      exact good_index (wanted_none rfl) rfl f3 rfl (by simp [go_sem, hn1, hn2, hn3, hn4]) rfl
    · intro b w' h hE
      have f4 : b.tmps.getD 4 undef = (.pointer (some ⟨g, o, none⟩)) := h.dep 1 _ 4 (by kernel_rfl) rfl rfl
      have c0 := cell_later h.ext k0.out
      exact good_load (wanted_none rfl) rfl f4 (by simp [go_sem, c0]) rfl
    · intro b w' h hE
      have f0 : b.tmps.getD 0 undef = (.slice (some ⟨g, o, none⟩) (m + 1) cap) := hE 0 (of_decide_eq_true (by kernel_rfl))
      exact good_move (wanted_none rfl) rfl f0
    · intro b w' h hE
      have f0 : b.tmps.getD 0 undef = (.slice (some ⟨g, o, none⟩) (m + 1) cap) := hE 0 (of_decide_eq_true (by kernel_rfl))
      exact good_move (wanted_none rfl) rfl f0
    · intro b w' h hE
      have f7 : b.tmps.getD 7 undef = (.slice (some ⟨g, o, none⟩) (m + 1) cap) := h.dep 4 _ 7 (by kernel_rfl) rfl rfl
      exact good_len (wanted_none rfl) rfl rfl f7 rfl
    · intro b w' h hE
      have f8 : b.tmps.getD 8 undef = (.int .i64 ((m + 1 : Nat) : Int)) := h.dep 5 _ 8 (by kernel_rfl) rfl rfl
      exact good_bin (wanted_none rfl) rfl f8 rfl (by rfl) (run_sub_i64 Try.underlying3 _ _ _ (by omega) (by omega) _) rfl
    · intro b w' h hE
      have f6 : b.tmps.getD 6 undef = (.slice (some ⟨g, o, none⟩) (m + 1) cap) := h.dep 3 _ 6 (by kernel_rfl) rfl rfl
      have f9 : b.tmps.getD 9 undef = (.int .i64 (m : Int)) := h.dep 6 _ 9 (by kernel_rfl) rfl rfl
      exact good_index (wanted_none rfl) rfl f6 f9 (by simp [go_sem, hn1, hn2, hn3, hn4]) rfl
    · intro b w' h hE
      have f10 : b.tmps.getD 10 undef = (.pointer (some ⟨g, o + m, none⟩)) := h.dep 7 _ 10 (by kernel_rfl) rfl rfl
      have c0 := cell_later h.ext k1.out
      exact good_load (wanted_none rfl) rfl f10 (by simp [go_sem, c0]) rfl
    · intro b w' h hE
      have f11 : b.tmps.getD 11 undef = (.int .i64 y) := h.dep 8 _ 11 (by kernel_rfl) rfl rfl
      exact good_bin (wanted_none rfl) rfl f11 rfl (by rfl) (run_add_i64 Try.underlying3 _ _ _ rfl (by omega) _) rfl
    · intro b w' h hE
      have f5 : b.tmps.getD 5 undef = (.int .i64 x) := h.dep 2 _ 5 (by kernel_rfl) rfl rfl
      have g5 : b.tmps[5]?.getD undef = (.int .i64 x) := by rw [← Array.getD_eq_getD_getElem?]; exact f5
      have f12 : b.tmps.getD 12 undef = (.int .i64 (y + 1)) := h.dep 9 _ 12 (by kernel_rfl) rfl rfl
      have g12 : b.tmps[12]?.getD undef = (.int .i64 (y + 1)) := by rw [← Array.getD_eq_getD_getElem?]; exact f12
      exact good_run (wanted_none rfl) (by simp [execOp, Act.eval, go_sem, g5, g12, Sem.run_bind, Sem.run_pure, Result.andThen_ok]) rfl
  · intro b w2 hX2 hd hz he' hf
    have e3 : b.tmps.getD 3 undef = (.slice (some ⟨g, o, none⟩) (m + 1) cap) := hf 0 _ 3 (by omega) rfl rfl
    have e4 : b.tmps.getD 4 undef = (.pointer (some ⟨g, o, none⟩)) := hf 1 _ 4 (by omega) rfl rfl
    have e5 : b.tmps.getD 5 undef = (.int .i64 x) := hf 2 _ 5 (by omega) rfl rfl
    have e6 : b.tmps.getD 6 undef = (.slice (some ⟨g, o, none⟩) (m + 1) cap) := hf 3 _ 6 (by omega) rfl rfl
    have e7 : b.tmps.getD 7 undef = (.slice (some ⟨g, o, none⟩) (m + 1) cap) := hf 4 _ 7 (by omega) rfl rfl
    have e8 : b.tmps.getD 8 undef = (.int .i64 ((m + 1 : Nat) : Int)) := hf 5 _ 8 (by omega) rfl rfl
    have e9 : b.tmps.getD 9 undef = (.int .i64 (m : Int)) := hf 6 _ 9 (by omega) rfl rfl
    have e10 : b.tmps.getD 10 undef = (.pointer (some ⟨g, o + m, none⟩)) := hf 7 _ 10 (by omega) rfl rfl
    have e11 : b.tmps.getD 11 undef = (.int .i64 y) := hf 8 _ 11 (by omega) rfl rfl
    have e12 : b.tmps.getD 12 undef = (.int .i64 (y + 1)) := hf 9 _ 12 (by omega) rfl rfl
    have e13 : b.tmps.getD 13 undef = (.agg #[.int .i64 x, .int .i64 (y + 1)]) := hf 10 _ 13 (by omega) rfl rfl
    have e := frame_puts hd hz he'
    obtain ⟨X, hXx⟩ : ∃ X : Nat → Value, ∀ d, b.tmps.getD d undef = X d := ⟨_, fun _ => rfl⟩
    rw [hXx] at e3 e4 e5 e6 e7 e8 e9 e10 e11 e12 e13
    rw [show dstsOf _ = [3, 4, 5, 6, 7, 8, 9, 10, 11, 12, 13] from rfl] at e
    simp only [List.foldl_cons, List.foldl_nil, hXx, Act.put, List.setIfInBounds_toArray, List.set_cons_succ, List.set_cons_zero] at e
    rw [e3, e4, e5, e6, e7, e8, e9, e10, e11, e12, e13] at e
    clear hf he' hz hd hXx e3 e4 e5 e6 e7 e8 e9 e10 e11 e12 e13
    subst e
    have hzw := hX2.size
    simp only [List.drop_succ_cons, List.drop_zero]
    have o2 := o0.out.ext hX2
    have z0 := o2.cell 0 rfl
    have z1 := o2.cell 1 rfl
    have y0 := o2.free 0
    have y1 := o2.free 1
    have ll := o2.lt
    (haveI : In w.heap.size w2 := ⟨ll⟩)
    replace o2 := hide o2
    replace hX2 := hide hX2
    have i0 : In w.heap.size w2 := ⟨ll⟩
    go_wp2_with fail
    have q2 := (o2.out.set 0 (.int .i64 x)).set 1 (.int .i64 (y + 1))
    have u0 := q2.cell 0 rfl
    have u1 := q2.cell 1 rfl
    exact ret_plain (v := .agg #[.int .i64 x, .int .i64 (y + 1)]) (by simp [results, Try.f32, go_sem, u0, u1]) ⟨rfl, ((((Ext.refl w).alloc _).trans hX2.out).setCell (p := ⟨w.heap.size, 0, none⟩) (Nat.le_refl _) _).setCell (p := ⟨w.heap.size, 1, none⟩) (Nat.le_refl _) _⟩
end Go.Proofs.Ytljkneajdndgjaa
set_option linter.unusedVariables false
set_option linter.unusedSimpArgs false
namespace Go.Proofs.Ytljkneajdndgjaa
open Go.RowKit
attribute [local go_sem] GW.cell GW.frozen In.eq_true In.le_true In.ne In.ne' In.ne_add In.ne_add' In.lt_add Upto.le_true Upto.le_add Upto.lt_add
theorem tGs : ElemT Try.prog 72 25 (.slice none 0 0) 1 24 := ElemT.mk' Try.underlying72 (by kernel_rfl) rfl (by omega)
/-- So many starts, from the i-th on. -/
def gv (g o n i : Nat) : Value := .slice (some ⟨g, o + i, none⟩) n n
def gvs (g o n K : Nat) : List Value := (List.range K).map fun i => gv g o n i
theorem gvs_next (g o n K : Nat) : gvs g o n (K + 1) = gvs g o n K ++ [gv g o n K] := by unfold gvs; rw [List.range_succ, List.map_append]; rfl
set_option maxHeartbeats 4000000 in
set_option maxRecDepth 100000 in
theorem groupsOf_c (g o N cap n : Nat) (hn : 1 ≤ n ∧ n ≤ 64) (hN : N ≤ cap) (hNl : N ≤ 4194304) (hcap : cap ≤ maxLen) (w : World) : Calls Try.prog 31 #[.slice (some ⟨g, o, none⟩) N cap, .int .i64 n] w fun e w' => ∃ v', e = .returned v' ∧ w'.ownsRow w.heap.size 25 1 v' (N + 1 - n) (gvs g o n (N + 1 - n)) ∧ Ext w w' := by
  obtain ⟨n1, n2⟩ := hn
  unfold maxLen at hcap
  go_enter Try.func31, Try.ntmps31
  go_wp2_with fail
  go_loopg [5, 6] (N + 1) (fun gh u i wr => ∃ (k : Nat), i = .int .i64 k ∧ k + gh = N + 1 ∧ k ≤ N + 1 - n ∧ Hid (wr.ownsRow w.heap.size 25 1 u k (gvs g o n k)) ∧ Hid (Ext w wr))
  case atStart => exact ⟨0, by go_num, by omega, by omega, World.ownsRow_nil _ _ _ _, Ext.refl _⟩
  case round =>
    obtain ⟨k, rfl, hk, hkn, hO, hX⟩ := hrel
    obtain ⟨UA, ucap, rfl⟩ := own_form hO.out
    have hobU := ob_ge hO.out
    have hzw := hX.out.size
    by_cases hlt : k + n ≤ N
    · have h1 : (k : Int) + (n : Int) ≤ (N : Int) := by omega
      have h2 : (k : Int) ≤ (k : Int) + (n : Int) := by omega
      have h3 : (k : Int) + (n : Int) ≤ (cap : Int) := by omega
      have hO1 := hide hO.out
      go_wp2_with (at_builtin; refine wpl_app tGs rfl (.tmp 15) (.tmp 25) rfl rfl (own_ext hO1.out ((Ext.refl wr).alloc _)) rfl (src_one Try.underlying72 wr _ _ rfl) (by unfold maxLen; omega) (by omega) (by simp only [World.size_alloc]; omega) ?_; intro v8 w8 ho8 hg8 hob8; have ho9 := hide ho8; have hg9 := hide hg8; obtain ⟨A8, c8, q8⟩ := own_form ho8; subst q8; clear ho8 hg8 hob8)
      have hF9 : Fr (ob (.slice UA k ucap)) wr w8 := ((Fr.refl _ _).alloc _).grown hg9.out (fun j hj => .inl (Option.mem_toList.2 hj))
      go_roundg (N + 1 - (k + 1))
      case measure => omega
      case rel => exact ⟨k + 1, by go_num, by omega, by omega, (by show World.ownsRow _ _ _ _ _ _ _; rw [gvs_next]; exact ho9.out), ext_fr hX.out hF9 (fun y hy => (hobU y hy).1)⟩
    · have hkc : k = N + 1 - n := by omega
      go_wp2_with fail
      go_returns
      exact ⟨_, rfl, by rw [← hkc]; exact hO.out, hX.out⟩
end Go.Proofs.Ytljkneajdndgjaa
