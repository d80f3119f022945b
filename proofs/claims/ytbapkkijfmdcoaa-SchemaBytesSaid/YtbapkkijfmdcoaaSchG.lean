/-
  A helper of ours: no claim of its own. Layer 7 (schema): schemas one behind the other, on both sides.
-/
import Derived.Test.YtbapkkijfmdcoaaSchF
import Derived.Lib.AppendZerosOnto
import Derived.Lib.LazyBuf
import Derived.WalkLawsBesides
set_option linter.unusedVariables false
set_option linter.unusedSimpArgs false
namespace Go.Proofs.Ytbapkkijfmdcoaa
open Go.RowKit
attribute [local go_sem] GW.cell GW.frozen In.eq_true In.le_true In.ne In.ne' In.ne_add In.ne_add' In.lt_add Upto.le_true Upto.le_add Upto.lt_add
theorem tCol : ElemT Try.prog 25 34 (.agg #[.string ⟨#[]⟩, .int .i64 0]) 2 24 := ElemT.mk' Try.underlying25 (by kernel_rfl) rfl (by omega)
theorem own_appC {w : World} {B : Nat} {v : Value} {l m : List Cl} (h : w.ownsRow B 34 2 v (l.length + m.length) (cl l ++ cl m)) : OwnC w B v (l ++ m) := by
  unfold OwnC; rw [List.length_append, cl_append]; exact h
theorem own_cw {w : World} {B : Nat} {S : List Nat} {v : Value} {l : List Cl} (h : OwnC w B v l) (hs : ∀ b, b ∈ S → b < B) : Cw w S v l := Sl.own h hs
set_option maxHeartbeats 2000000 in
set_option maxRecDepth 100000 in
theorem growC_c (n : Nat) (hn : n ≤ 8) (w : World) : Calls Try.prog 68 #[.slice none 0 0, .int .i64 n] w fun e w' => ∃ v', e = .returned v' ∧ OwnC w' w.heap.size v' [] ∧ Ext w w' := by
  by_cases h0 : n = 0
  · subst h0
    go_enter Try.func68, Try.ntmps68
    go_wp2_with fail
    go_returns
    exact ⟨_, rfl, World.ownsRow_nil _ _ _ _, Ext.refl w⟩
  · have hpos : (0 : Int) < n := by omega
    obtain ⟨ht, ⟨i, hi, hz, hsize, hby⟩, hzs, hsz⟩ := tCol
    have hfit : Builtin.nextslicecap n 0 * i.bytes ≤ 281474976710656 := growslice_fits (by omega) (by rw [hby]; omega)
    have hrz : ∀ ty, (Builtin.append_ #[25, 3] ty #[.slice none 0 0, .int .i64 n]).run Try.prog w =
        .ok (.slice (some ⟨w.heap.size, 0, none⟩) n (grownCap w n 0 34)) (w.drew.alloc (.cells (Builtin.zeroCells (Value.agg #[.string ⟨#[]⟩, .int .i64 0]).cells n ++ Builtin.zeroCells (Value.agg #[.string ⟨#[]⟩, .int .i64 0]).cells (grownCap w n 0 34 - n)) 34)) := fun ty => by
      have h := Lib.run_append_grow_zeros (P := Try.prog) w 25 3 ty 34 i _ .i64 .i64 ht Try.underlying3 hi hz none 0 0 [] (run_firstCells_none w.drew i.size 0 0 0) n (by omega) (by omega) (by omega) (by omega) (by rw [hby]; omega) (by simpa using hfit)
      simpa using h
    have hGn : n ≤ grownCap w n 0 34 := grownCap_ge w _ _ _
    have hGm : grownCap w n 0 34 ≤ maxLen := grownCap_le_maxLen w n 0 _ (by unfold maxLen; omega)
    generalize grownCap w n 0 34 = G at *
    have hgI : (0 : Int) ≤ G := by omega
    have hGm' := hGm
    unfold maxLen at hGm'
    clear hfit ht hi hz hsize hby
    go_enter Try.func68, Try.ntmps68
    go_wp2_with (at_builtin; refine Lib.wpList_append_run _ rfl _ _ _ _ rfl _ _ rfl rfl _ _ (hrz _) ?_)
    go_returns
    refine ⟨_, rfl, ⟨by simp [cl], .inr ⟨w.heap.size, G, _, rfl, Nat.le_refl _, heap_alloc_new w.drew _, Nat.zero_le _, hGm, ?_, by simp [cl]⟩⟩, (Ext.refl w).drew.alloc _⟩
    simp only [Array.size_append, size_zeroCells]
    show n * 2 + (G - n) * 2 = G * 2
    omega
theorem growC_sum (l m : List Cl) (h8 : l.length + m.length ≤ 8) (w : World) : Calls Try.prog 68 #[.slice none 0 0, .int .i64 ((l.length : Int) + m.length)] w fun e w' => ∃ v', e = .returned v' ∧ OwnC w' w.heap.size v' [] ∧ Ext w w' := by
  have h := growC_c (l.length + m.length) h8 w
  rwa [Int.natCast_add] at h
set_option maxHeartbeats 4000000 in
set_option maxRecDepth 100000 in
theorem concatC_c (l m : List Cl) (v u : Value) (b : Nat) (w : World) (hl : Cw w [] v l) (hm : Cw w [] u m) (h8 : l.length + m.length ≤ 8) (hb : Ob w b 25 [v, u]) : Calls Try.prog 51 #[.slice (some ⟨b, 0, none⟩) 2 2] w fun e w' => ∃ v', e = .returned v' ∧ OwnC w' w.heap.size v' (l ++ m) ∧ Ext w w' := by
  have hgr := hide (fun w => growC_sum l m h8 w)
  obtain ⟨A, cap, rfl, hlc, hlm, -⟩ := cw_form hl
  obtain ⟨B, cap2, rfl, hmc, hmm, -⟩ := cw_form hm
  unfold maxLen at hlm hmm
  have hb' := hide hb
  have q0 := hb.cell 0 rfl
  have q1 := hb.cell 1 rfl
  have hbl := hb.lt
  replace hl := hide hl
  replace hm := hide hm
  clear hb
  go_enter Try.func51, Try.ntmps51
  go_wp2_with fail
  go_loopg [3, 11] 2 (fun g z i wr => wr = w ∧ ((g = 2 ∧ i = .int .i64 0 ∧ z = .int .i64 0) ∨ (g = 1 ∧ i = .int .i64 1 ∧ z = .int .i64 l.length) ∨ (g = 0 ∧ i = .int .i64 2 ∧ z = .int .i64 ((l.length : Int) + m.length))))
  case atStart => exact ⟨rfl, .inl ⟨rfl, rfl, rfl⟩⟩
  case round =>
    obtain ⟨rfl, ⟨rfl, rfl, rfl⟩ | ⟨rfl, rfl, rfl⟩ | ⟨rfl, rfl, rfl⟩⟩ := hrel
    · go_wp2_with fail
      go_roundg 1
      case measure => omega
      case rel => exact ⟨rfl, .inr (.inl ⟨rfl, rfl, by go_num⟩)⟩
    · go_wp2_with fail
      go_roundg 0
      case measure => omega
      case rel => exact ⟨rfl, .inr (.inr ⟨rfl, rfl, by go_num⟩)⟩
    · go_wp2_with (go_at_call 68; refine (hgr.out _).mono ?_; rintro ee w1 ⟨v1, rfl, ho1, hx1⟩)
      clear q0 q1 hbl hgr
      go_loopg [6, 27] 2 (fun g vv i wr2 => ∃ acc, OwnC wr2 wr.heap.size vv acc ∧ Ext wr wr2 ∧ ((g = 2 ∧ i = .int .i64 0 ∧ acc = []) ∨ (g = 1 ∧ i = .int .i64 1 ∧ acc = l) ∨ (g = 0 ∧ i = .int .i64 2 ∧ acc = l ++ m)))
      case atStart => exact ⟨[], ho1, hx1, .inl ⟨rfl, rfl, rfl⟩⟩
      case round =>
        obtain ⟨acc, ho, hX, ⟨rfl, rfl, rfl⟩ | ⟨rfl, rfl, rfl⟩ | ⟨rfl, rfl, rfl⟩⟩ := hrel
        · have hbx := hb'.out.ext hX
          have q0 := hbx.cell 0 rfl
          have hzX := hX.size
          go_wp2_with (at_builtin; (refine wpl_app tCol rfl (.tmp 31) (.tmp 32) rfl rfl ho rfl (src_sl Try.underlying25 (Sl.ext hl.out hX) (cl_one _) (by omega)) (by unfold maxLen; simp only [List.length_nil]; omega) (by simp only [List.length_nil]; omega) hzX ?_; intro v2 w2 ho2 hg2 _))
          go_roundg 1
          case measure => omega
          case rel => exact ⟨l, (by have := own_appC (l := []) ho2; simpa using this), ext_grown hX hg2 (fun k hk => (ho.lt k hk).1), .inr (.inl ⟨rfl, rfl, rfl⟩)⟩
        · have hbx := hb'.out.ext hX
          have q1 := hbx.cell 1 rfl
          have hzX := hX.size
          go_wp2_with (at_builtin; (refine wpl_app tCol rfl (.tmp 31) (.tmp 32) rfl rfl ho rfl (src_sl Try.underlying25 (Sl.ext hm.out hX) (cl_one _) (by omega)) (by unfold maxLen; omega) (by omega) hzX ?_; intro v2 w2 ho2 hg2 _))
          go_roundg 0
          case measure => omega
          case rel => exact ⟨acc ++ m, own_appC ho2, ext_grown hX hg2 (fun k hk => (ho.lt k hk).1), .inr (.inr ⟨rfl, rfl, rfl⟩)⟩
        · go_wp2_with fail
          go_returns
          exact ⟨_, rfl, ho, hX⟩
/-- Schemas one behind the other: what is wrong, and the schema. -/
def joinSE (l m : List Cl) : Int := if mayS l && mayS m then (if 8 < l.length + m.length then 6 else if apartB (l ++ m) then 0 else 9) else 17
def joinSV (l m : List Cl) : List Cl := if joinSE l m = 0 then l ++ m else []
theorem joinS_no {l m : List Cl} (h : (mayS l && mayS m) = false) : joinSE l m = 17 ∧ joinSV l m = [] := by
  have e : joinSE l m = 17 := by unfold joinSE; rw [h]; rfl
  exact ⟨e, by unfold joinSV; rw [e, if_neg (by decide)]⟩
theorem joinS_long {l m : List Cl} (h : (mayS l && mayS m) = true) (h8 : 8 < l.length + m.length) : joinSE l m = 6 ∧ joinSV l m = [] := by
  have e : joinSE l m = 6 := by unfold joinSE; rw [if_pos h, if_pos h8]
  exact ⟨e, by unfold joinSV; rw [e, if_neg (by decide)]⟩
theorem joinS_twice {l m : List Cl} (h : (mayS l && mayS m) = true) (h8 : l.length + m.length ≤ 8) (ha : apartB (l ++ m) = false) : joinSE l m = 9 ∧ joinSV l m = [] := by
  have e : joinSE l m = 9 := by unfold joinSE; rw [if_pos h, if_neg (by omega), ha]; rfl
  exact ⟨e, by unfold joinSV; rw [e, if_neg (by decide)]⟩
theorem joinS_ok {l m : List Cl} (h : (mayS l && mayS m) = true) (h8 : l.length + m.length ≤ 8) (ha : apartB (l ++ m) = true) : joinSE l m = 0 ∧ joinSV l m = l ++ m := by
  have e : joinSE l m = 0 := by unfold joinSE; rw [if_pos h, if_neg (by omega), ha]; rfl
  exact ⟨e, by unfold joinSV; rw [if_pos e]⟩
theorem mayS_join {l m : List Cl} (hl : mayS l = true) (hm : mayS m = true) (h8 : l.length + m.length ≤ 8) : mayS (l ++ m) = apartB (l ++ m) := by
  obtain ⟨⟨h1, _⟩, h2, _⟩ := mayS_iff.1 hl
  obtain ⟨_, h3, _⟩ := mayS_iff.1 hm
  have ha : (l ++ m).all okC = true := by
    rw [List.all_eq_true]
    intro c hc
    rcases List.mem_append.1 hc with hc | hc
    · exact h2 c hc
    · exact h3 c hc
  unfold mayS
  rw [ha, decide_eq_true (by rw [List.length_append]; omega), Bool.true_and, Bool.true_and]
set_option maxHeartbeats 4000000 in
set_option maxRecDepth 100000 in
theorem joinS_c (l m : List Cl) (v u : Value) (w : World) (hl : Cw w [] v l) (hm : Cw w [] u m) : Calls Try.prog 22 #[v, u] w fun e w' => ∃ v', e = .returned (.tuple #[v', .int .i64 (joinSE l m)]) ∧ OwnC w' w.heap.size v' (joinSV l m) ∧ Ext w w' := by
  have h1 := hide (fun w' (hX : Ext w w') => mayS_c l v w' (Sl.ext hl hX))
  have h2 := hide (fun w' (hX : Ext w w') => mayS_c m u w' (Sl.ext hm hX))
  have hX0 := hide (Ext.refl w)
  obtain ⟨A, cap, rfl, hlc, hlm, -⟩ := cw_form hl
  obtain ⟨B, cap2, rfl, hmc, hmm, -⟩ := cw_form hm
  unfold maxLen at hlm hmm
  cases ha : mayS l
  · obtain ⟨e1, e2⟩ := joinS_no (l := l) (m := m) (by rw [ha]; rfl)
    rw [e1, e2]
    rw [ha] at h1
    clear ha hl hm e1 e2
    go_enter Try.func22, Try.ntmps22
    go_wp2_with (go_at_call 12; (with_reducible refine seq_gw (h1.out _ hX0.out) ?_); intro g)
    go_returns
    exact ⟨_, rfl, World.ownsRow_nil _ _ _ _, g.grown⟩
  cases hb : mayS m
  · obtain ⟨e1, e2⟩ := joinS_no (l := l) (m := m) (by rw [ha, hb]; rfl)
    rw [e1, e2]
    rw [ha] at h1
    rw [hb] at h2
    clear ha hb hl hm e1 e2
    go_enter Try.func22, Try.ntmps22
    go_wp2_with (first | (go_at_call 12; (with_reducible refine seq_gw (h1.out _ hX0.out) ?_); intro g) | (go_at_call 12; (with_reducible refine seq_gw' (h2.out _ g.grown) ?_); intro g2))
    go_returns
    exact ⟨_, rfl, World.ownsRow_nil _ _ _ _, g2.grown⟩
  have l8 := (mayS_iff.1 ha).1
  have m8 := (mayS_iff.1 hb).1
  have hab : (mayS l && mayS m) = true := by rw [ha, hb]; rfl
  rw [ha] at h1
  rw [hb] at h2
  by_cases h8 : 8 < l.length + m.length
  · obtain ⟨e1, e2⟩ := joinS_long hab h8
    rw [e1, e2]
    have h8I : (8 : Int) < (l.length : Int) + m.length := by omega
    clear hl hm e1 e2 hab ha hb
    go_enter Try.func22, Try.ntmps22
    go_wp2_with (first | (go_at_call 12; (with_reducible refine seq_gw (h1.out _ hX0.out) ?_); intro g) | (go_at_call 12; (with_reducible refine seq_gw' (h2.out _ g.grown) ?_); intro g2))
    go_returns
    exact ⟨_, rfl, World.ownsRow_nil _ _ _ _, g2.grown⟩
  have h8' : l.length + m.length ≤ 8 := by omega
  have h8I : (l.length : Int) + m.length ≤ 8 := by omega
  have ht := hide (fun v' w' (hX : Cw w' [] v' (l ++ m)) => hasTwice_c (l ++ m) v' w' hX)
  replace hl := hide hl
  replace hm := hide hm
  clear ha hb h8
  obtain ⟨E, hE⟩ : ∃ E, E = joinSE l m := ⟨_, rfl⟩
  obtain ⟨V, hV⟩ : ∃ V, V = joinSV l m := ⟨_, rfl⟩
  rw [← hE, ← hV]
  have hJ8 : l.length + m.length = (l ++ m).length := by rw [List.length_append]
  obtain ⟨J, hJ⟩ : ∃ J, l ++ m = J := ⟨_, rfl⟩
  have j9 := fun h => joinS_twice hab h8' (h : apartB (l ++ m) = false)
  have j0 := fun h => joinS_ok hab h8' (h : apartB (l ++ m) = true)
  rw [hJ] at ht j9 j0 hJ8
  replace hJ := hide hJ
  replace hJ8 := hide hJ8
  cases hap : apartB J
  all_goals
    rw [hap] at ht
    first
    | obtain ⟨e1, e2⟩ := j9 hap
      replace hE := hide (hE.trans e1)
      replace hV := hide (hV.trans e2)
      clear e1 e2 hab hap j9 j0
      go_enter Try.func22, Try.ntmps22
      go_wp2_with (first | (go_at_call 12; (with_reducible refine seq_gw (h1.out _ hX0.out) ?_); intro g) | (go_at_call 12; (with_reducible refine seq_gw' (h2.out _ g.grown) ?_); intro g2) | (go_at_call 51; refine (concatC_c l m _ _ _ _ (Sl.ext hl.out (g2.grown.alloc _)) (Sl.ext hm.out (g2.grown.alloc _)) h8' (Ob.new g2.val _ _)).mono ?_; rintro ee w3 ⟨v3, rfl, ho3, hx3⟩; rw [hJ.out] at ho3; obtain ⟨C3, c3, rfl⟩ := own_form ho3; have hG3 := hide ((g2.grown.alloc _).trans hx3)) | (go_at_call 41; (with_reducible refine seq_gw (ht.out _ _ (own_cw ho3 (by simp))) ?_); intro g4))
      go_returns
      rw [hE.out, hV.out]
      exact ⟨_, rfl, World.ownsRow_nil _ _ _ _, hG3.out.trans g4.grown⟩
    | obtain ⟨e1, e2⟩ := j0 hap
      replace hE := hide (hE.trans e1)
      replace hV := hide (hV.trans e2)
      clear e1 e2 hab hap j9 j0
      go_enter Try.func22, Try.ntmps22
      go_wp2_with (first | (go_at_call 12; (with_reducible refine seq_gw (h1.out _ hX0.out) ?_); intro g) | (go_at_call 12; (with_reducible refine seq_gw' (h2.out _ g.grown) ?_); intro g2) | (go_at_call 51; refine (concatC_c l m _ _ _ _ (Sl.ext hl.out (g2.grown.alloc _)) (Sl.ext hm.out (g2.grown.alloc _)) h8' (Ob.new g2.val _ _)).mono ?_; rintro ee w3 ⟨v3, rfl, ho3, hx3⟩; rw [hJ.out] at ho3; obtain ⟨C3, c3, rfl⟩ := own_form ho3; have hG3 := hide ((g2.grown.alloc _).trans hx3)) | (go_at_call 41; (with_reducible refine seq_gw (ht.out _ _ (own_cw ho3 (by simp))) ?_); intro g4))
      go_returns
      rw [hE.out, hV.out]
      have hz := GW.size g2
      exact ⟨_, rfl, own_ext (own_base ho3 (by simp only [World.size_alloc]; omega)) g4.grown, hG3.out.trans g4.grown⟩
set_option maxHeartbeats 4000000 in
set_option maxRecDepth 100000 in
theorem refJoinS_c (l m : List Cl) (v u : Value) (w : World) (hl : Cw w [] v l) (hm : Cw w [] u m) : Calls Try.prog 23 #[v, u] w fun e w' => ∃ v', e = .returned (.tuple #[v', .int .i64 (joinSE l m)]) ∧ OwnC w' w.heap.size v' (joinSV l m) ∧ Ext w w' := by
  have h1 := hide (fun w' (hX : Ext w w') => refMayS_c l v w' (Sl.ext hl hX))
  have h2 := hide (fun w' (hX : Ext w w') => refMayS_c m u w' (Sl.ext hm hX))
  have hX0 := hide (Ext.refl w)
  obtain ⟨A, cap, rfl, hlc, hlm, -⟩ := cw_form hl
  obtain ⟨B, cap2, rfl, hmc, hmm, -⟩ := cw_form hm
  unfold maxLen at hlm hmm
  cases ha : mayS l
  · obtain ⟨e1, e2⟩ := joinS_no (l := l) (m := m) (by rw [ha]; rfl)
    rw [e1, e2]
    rw [ha] at h1
    clear ha hl hm e1 e2
    go_enter Try.func23, Try.ntmps23
    go_wp2_with (go_at_call 13; (with_reducible refine seq_gw (h1.out _ hX0.out) ?_); intro g)
    go_returns
    exact ⟨_, rfl, World.ownsRow_nil _ _ _ _, g.grown⟩
  cases hb : mayS m
  · obtain ⟨e1, e2⟩ := joinS_no (l := l) (m := m) (by rw [ha, hb]; rfl)
    rw [e1, e2]
    rw [ha] at h1
    rw [hb] at h2
    clear ha hb hl hm e1 e2
    go_enter Try.func23, Try.ntmps23
    go_wp2_with (first | (go_at_call 13; (with_reducible refine seq_gw (h1.out _ hX0.out) ?_); intro g) | (go_at_call 13; (with_reducible refine seq_gw' (h2.out _ g.grown) ?_); intro g2))
    go_returns
    exact ⟨_, rfl, World.ownsRow_nil _ _ _ _, g2.grown⟩
  have l8 := (mayS_iff.1 ha).1
  have m8 := (mayS_iff.1 hb).1
  have hab : (mayS l && mayS m) = true := by rw [ha, hb]; rfl
  rw [ha] at h1
  rw [hb] at h2
  by_cases h8 : 8 < l.length + m.length
  · obtain ⟨e1, e2⟩ := joinS_long hab h8
    rw [e1, e2]
    have h8I : (8 : Int) < (l.length : Int) + m.length := by omega
    clear hl hm e1 e2 hab ha hb
    go_enter Try.func23, Try.ntmps23
    go_wp2_with (first | (go_at_call 13; (with_reducible refine seq_gw (h1.out _ hX0.out) ?_); intro g) | (go_at_call 13; (with_reducible refine seq_gw' (h2.out _ g.grown) ?_); intro g2))
    go_returns
    exact ⟨_, rfl, World.ownsRow_nil _ _ _ _, g2.grown⟩
  have h8' : l.length + m.length ≤ 8 := by omega
  have h8I : (l.length : Int) + m.length ≤ 8 := by omega
  have hmj := mayS_join ha hb h8'
  have ht := hide (fun v' w' (hX : Cw w' [] v' (l ++ m)) => refMayS_c (l ++ m) v' w' hX)
  rw [hmj] at ht
  replace hl := hide hl
  replace hm := hide hm
  clear ha hb h8 hmj
  obtain ⟨E, hE⟩ : ∃ E, E = joinSE l m := ⟨_, rfl⟩
  obtain ⟨V, hV⟩ : ∃ V, V = joinSV l m := ⟨_, rfl⟩
  rw [← hE, ← hV]
  have hJ8 : l.length + m.length = (l ++ m).length := by rw [List.length_append]
  obtain ⟨J, hJ⟩ : ∃ J, l ++ m = J := ⟨_, rfl⟩
  have j9 := fun h => joinS_twice hab h8' (h : apartB (l ++ m) = false)
  have j0 := fun h => joinS_ok hab h8' (h : apartB (l ++ m) = true)
  rw [hJ] at ht j9 j0 hJ8
  replace hJ := hide hJ
  replace hJ8 := hide hJ8
  cases hap : apartB J
  all_goals
    rw [hap] at ht
    first
    | obtain ⟨e1, e2⟩ := j9 hap
      replace hE := hide (hE.trans e1)
      replace hV := hide (hV.trans e2)
      clear e1 e2 hab hap j9 j0
      go_enter Try.func23, Try.ntmps23
      go_wp2_with (first | (go_at_call 13; (with_reducible refine seq_gw (h1.out _ hX0.out) ?_); intro g) | ((go_at_call 13; (with_reducible refine seq_gw' (h2.out _ g.grown) ?_); intro g2); have hlit := hide (World.ownsRow_lit (base := g2.val.heap.size) (e := 34) (size := 2) g2.val #[] 0 (Nat.le_refl _) (by decide) rfl)) | (at_builtin; (refine wpl_app tCol rfl (.tmp 21) (.tmp 22) rfl rfl hlit.out rfl (src_sl Try.underlying25 (Sl.ext hl.out (g2.grown.alloc _)) (cl_one _) (by omega)) (by unfold maxLen; omega) (by omega) (by simp) ?_; intro v3 w3 ho3 hg3 _; have hx3 := hide (ext_grown ((Ext.refl g2.val).alloc _) hg3 (fun k hk => (hlit.out.lt k hk).1)); have hz3 := hx3.out.size; replace ho3 : OwnC w3 g2.val.heap.size v3 l := (by have := own_appC (l := []) ho3; simpa using this))) | (at_builtin; (refine wpl_app tCol rfl (.tmp 24) (.tmp 25) rfl rfl ho3 rfl (src_sl Try.underlying25 (Sl.ext hm.out (g2.grown.trans hx3.out)) (cl_one _) (by omega)) (by unfold maxLen; omega) (by omega) hz3 ?_; intro v4 w4 ho4 hg4 _; have hx4 := hide (ext_grown hx3.out hg4 (fun k hk => (ho3.lt k hk).1)); replace ho4 := own_appC ho4; rw [hJ.out] at ho4; obtain ⟨C4, c4, rfl⟩ := own_form ho4; have hG4 := hide (g2.grown.trans hx4.out))) | (go_at_call 13; (with_reducible refine seq_gw (ht.out _ _ (own_cw ho4 (by simp))) ?_); intro g5))
      go_returns
      rw [hE.out, hV.out]
      exact ⟨_, rfl, World.ownsRow_nil _ _ _ _, hG4.out.trans g5.grown⟩
    | obtain ⟨e1, e2⟩ := j0 hap
      replace hE := hide (hE.trans e1)
      replace hV := hide (hV.trans e2)
      clear e1 e2 hab hap j9 j0
      go_enter Try.func23, Try.ntmps23
      go_wp2_with (first | (go_at_call 13; (with_reducible refine seq_gw (h1.out _ hX0.out) ?_); intro g) | ((go_at_call 13; (with_reducible refine seq_gw' (h2.out _ g.grown) ?_); intro g2); have hlit := hide (World.ownsRow_lit (base := g2.val.heap.size) (e := 34) (size := 2) g2.val #[] 0 (Nat.le_refl _) (by decide) rfl)) | (at_builtin; (refine wpl_app tCol rfl (.tmp 21) (.tmp 22) rfl rfl hlit.out rfl (src_sl Try.underlying25 (Sl.ext hl.out (g2.grown.alloc _)) (cl_one _) (by omega)) (by unfold maxLen; omega) (by omega) (by simp) ?_; intro v3 w3 ho3 hg3 _; have hx3 := hide (ext_grown ((Ext.refl g2.val).alloc _) hg3 (fun k hk => (hlit.out.lt k hk).1)); have hz3 := hx3.out.size; replace ho3 : OwnC w3 g2.val.heap.size v3 l := (by have := own_appC (l := []) ho3; simpa using this))) | (at_builtin; (refine wpl_app tCol rfl (.tmp 24) (.tmp 25) rfl rfl ho3 rfl (src_sl Try.underlying25 (Sl.ext hm.out (g2.grown.trans hx3.out)) (cl_one _) (by omega)) (by unfold maxLen; omega) (by omega) hz3 ?_; intro v4 w4 ho4 hg4 _; have hx4 := hide (ext_grown hx3.out hg4 (fun k hk => (ho3.lt k hk).1)); replace ho4 := own_appC ho4; rw [hJ.out] at ho4; obtain ⟨C4, c4, rfl⟩ := own_form ho4; have hG4 := hide (g2.grown.trans hx4.out))) | (go_at_call 13; (with_reducible refine seq_gw (ht.out _ _ (own_cw ho4 (by simp))) ?_); intro g5))
      go_returns
      rw [hE.out, hV.out]
      have hz := GW.size g2
      exact ⟨_, rfl, own_ext (own_base ho4 hz) g5.grown, hG4.out.trans g5.grown⟩
end Go.Proofs.Ytbapkkijfmdcoaa
