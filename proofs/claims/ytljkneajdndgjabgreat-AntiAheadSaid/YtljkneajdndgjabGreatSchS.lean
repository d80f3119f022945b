/-
  A helper of ours: no claim of its own. Layer 7 (schema): columns as lists: names, the first column of a name, two of one name, what is a schema. No program in it.
-/
import Derived.Test.YtljkneajdndgjabGreatRowA
import Derived.Lib.AppendZerosOnto
import Derived.Lib.LazyBuf
import Derived.WalkLawsBesides
import Derived.Test.YtljkneajdndgjabGreatMem
set_option linter.unusedVariables false
set_option linter.unusedSimpArgs false
namespace Go.Proofs.YtljkneajdndgjabGreat
open Go.RowKit
attribute [local go_sem] GW.cell GW.frozen In.eq_true In.le_true In.ne In.ne' In.ne_add In.ne_add' In.lt_add Upto.le_true Upto.le_add Upto.lt_add
theorem tVal : ElemT Tryz.prog 33 53 (.agg #[.int .i64 0, .int .i64 0, .string ⟨#[]⟩]) 3 32 := ElemT.mk' Tryz.underlying33 (by kernel_rfl) rfl (by omega)
theorem own_appR {w : World} {B : Nat} {v : Value} {l m : List Vl} (h : w.ownsRow B 53 3 v (l.length + m.length) (rc l ++ rc m)) : OwnR w B v (l ++ m) := by
  unfold OwnR; rw [List.length_append, rc_append]; exact h
set_option maxHeartbeats 1000000 in
set_option maxRecDepth 100000 in
theorem rowClone_c (l : List Vl) (v : Value) (w : World) (h : Rw w [] v l) (hz : l.length * 32 ≤ 140737488351232) : Calls Tryz.prog 136 #[v] w fun e w' => ∃ v', e = .returned v' ∧ OwnR w' w.heap.size v' l ∧ Ext w w' := by
  obtain ⟨A, cap, rfl, hl, hm, -⟩ := rw_form h
  have hq := fun w => Lib.run_eql_slice_nil (P := Tryz.prog) w 33 53 A l.length cap 0 0 Tryz.underlying33
  cases A with
  | none =>
    have hl0 : l = [] := by
      obtain ⟨A', cap', e, _, _, h3, h4⟩ := h
      rcases h4 with h4 | ⟨b, o, rfl, _⟩
      · have := congrArg List.length h4; rw [rc_length] at this; exact List.eq_nil_of_length_eq_zero (by simp at this; omega)
      · cases e
    subst hl0
    clear h hq
    have hq0 := fun w => Lib.run_eql_slice_nil (P := Tryz.prog) w 33 53 none 0 cap 0 0 Tryz.underlying33
    show Calls Tryz.prog 136 #[.slice none 0 cap] w fun e w' => ∃ v', e = .returned v' ∧ OwnR w' w.heap.size v' [] ∧ Ext w w'
    go_enter Tryz.func136, Tryz.ntmps136
    go_wp2_with fail
    go_returns
    exact ⟨_, rfl, World.ownsRow_nil _ _ _ _, Ext.refl w⟩
  | some a =>
    have hlit := hide (World.ownsRow_lit (base := w.heap.size) (e := 53) (size := 3) w #[] 0 (Nat.le_refl _) (by decide) rfl)
    have hv := hide h
    clear h
    go_enter Tryz.func136, Tryz.ntmps136
    go_wp2_with (at_builtin; (refine wpl_app tVal rfl (.tmp 5) (.tmp 6) rfl rfl hlit.out rfl (src_sl Tryz.underlying33 (Sl.ext hv.out ((Ext.refl w).alloc _)) (rc_one _) (by omega)) (by unfold maxLen; omega) (by omega) (by simp) ?_; intro v1 w1 ho1 hg1 _))
    go_returns
    have ho2 : OwnR w1 w.heap.size v1 l := by have := own_appR (l := []) ho1; simpa using this
    exact ⟨_, rfl, ho2, ext_grown ((Ext.refl w).alloc _) hg1 (fun k hk => (hlit.out.lt k hk).1)⟩
set_option maxHeartbeats 1000000 in
theorem rowCopy_c (l : List Vl) (v : Value) (w : World) (h : Rw w [] v l) (hz : l.length * 32 ≤ 140737488351232) : Calls Tryz.prog 105 #[v] w fun e w' => ∃ v', e = .returned v' ∧ OwnR w' w.heap.size v' l ∧ Ext w w' := by
  have hc := hide (rowClone_c l v w h hz)
  clear h
  go_enter Tryz.func105, Tryz.ntmps105
  go_wp2_with (go_at_call 136; refine hc.out.mono ?_; rintro ee w1 ⟨v1, rfl, ho1, hx1⟩)
  go_returns
  exact ⟨_, rfl, ho1, hx1⟩
set_option maxHeartbeats 2000000 in
set_option maxRecDepth 100000 in
theorem rowGrow_c (n : Nat) (hn : n ≤ 8) (w : World) : Calls Tryz.prog 146 #[.slice none 0 0, .int .i64 n] w fun e w' => ∃ v', e = .returned v' ∧ OwnR w' w.heap.size v' [] ∧ Ext w w' := by
  by_cases h0 : n = 0
  · subst h0
    go_enter Tryz.func146, Tryz.ntmps146
    go_wp2_with fail
    go_returns
    exact ⟨_, rfl, World.ownsRow_nil _ _ _ _, Ext.refl w⟩
  · have hpos : (0 : Int) < n := by omega
    obtain ⟨ht, ⟨i, hi, hz, hsize, hby⟩, hzs, hsz⟩ := tVal
    have hfit : Builtin.nextslicecap n 0 * i.bytes ≤ 281474976710656 := growslice_fits (by omega) (by rw [hby]; omega)
    have hrz : ∀ ty, (Builtin.append_ #[33, 3] ty #[.slice none 0 0, .int .i64 n]).run Tryz.prog w =
        .ok (.slice (some ⟨w.heap.size, 0, none⟩) n (grownCap w n 0 53)) (w.drew.alloc (.cells (Builtin.zeroCells (Value.agg #[.int .i64 0, .int .i64 0, .string ⟨#[]⟩]).cells n ++ Builtin.zeroCells (Value.agg #[.int .i64 0, .int .i64 0, .string ⟨#[]⟩]).cells (grownCap w n 0 53 - n)) 53)) := fun ty => by
      have h := Lib.run_append_grow_zeros (P := Tryz.prog) w 33 3 ty 53 i _ .i64 .i64 ht Tryz.underlying3 hi hz none 0 0 [] (run_firstCells_none w.drew i.size 0 0 0) n (by omega) (by omega) (by omega) (by omega) (by rw [hby]; omega) (by simpa using hfit)
      simpa using h
    have hGn : n ≤ grownCap w n 0 53 := grownCap_ge w _ _ _
    have hGm : grownCap w n 0 53 ≤ maxLen := grownCap_le_maxLen w n 0 _ (by unfold maxLen; omega)
    generalize grownCap w n 0 53 = G at *
    have hgI : (0 : Int) ≤ G := by omega
    have hGm' := hGm
    unfold maxLen at hGm'
    clear hfit ht hi hz hsize hby
    go_enter Tryz.func146, Tryz.ntmps146
    go_wp2_with (at_builtin; refine Lib.wpList_append_run _ rfl _ _ _ _ rfl _ _ rfl rfl _ _ (hrz _) ?_)
    go_returns
    refine ⟨_, rfl, ⟨by simp [rc], .inr ⟨w.heap.size, G, _, rfl, Nat.le_refl _, heap_alloc_new w.drew _, Nat.zero_le _, hGm, ?_, by simp [rc]⟩⟩, (Ext.refl w).drew.alloc _⟩
    simp only [Array.size_append, size_zeroCells]
    show n * 3 + (G - n) * 3 = G * 3
    omega
theorem rowGrow_sum (l m : List Vl) (h8 : l.length + m.length ≤ 8) (w : World) : Calls Tryz.prog 146 #[.slice none 0 0, .int .i64 ((l.length : Int) + m.length)] w fun e w' => ∃ v', e = .returned v' ∧ OwnR w' w.heap.size v' [] ∧ Ext w w' := by
  have h := rowGrow_c (l.length + m.length) h8 w
  rwa [Int.natCast_add] at h
set_option maxHeartbeats 4000000 in
set_option maxRecDepth 100000 in
theorem rowConcat_c (l m : List Vl) (v u : Value) (b : Nat) (w : World) (hl : Rw w [] v l) (hm : Rw w [] u m) (h8 : l.length + m.length ≤ 8) (hb : Ob w b 33 [v, u]) : Calls Tryz.prog 116 #[.slice (some ⟨b, 0, none⟩) 2 2] w fun e w' => ∃ v', e = .returned v' ∧ OwnR w' w.heap.size v' (l ++ m) ∧ Ext w w' := by
  have hgr := hide (fun w => rowGrow_sum l m h8 w)
  obtain ⟨A, cap, rfl, hlc, hlm, -⟩ := rw_form hl
  obtain ⟨B, cap2, rfl, hmc, hmm, -⟩ := rw_form hm
  unfold maxLen at hlm hmm
  have hb' := hide hb
  have q0 := hb.cell 0 rfl
  have q1 := hb.cell 1 rfl
  have hbl := hb.lt
  replace hl := hide hl
  replace hm := hide hm
  clear hb
  go_enter Tryz.func116, Tryz.ntmps116
  go_wp2_with fail
  go_loopg [3, 11] 2 (fun g z i wr => wr = w ∧ ((g = 2 ∧ i = .int .i64 0 ∧ z = .int .i64 0) ∨ (g = 1 ∧ i = .int .i64 1 ∧ z = .int .i64 l.length) ∨ (g = 0 ∧ i = .int .i64 2 ∧ z = .int .i64 ((l.length : Int) + m.length))))
  case atStart => exact ⟨rfl, .inl ⟨rfl, rfl, rfl⟩⟩
  case round =>
    obtain ⟨rfl, ⟨rfl, rfl, rfl⟩ | ⟨rfl, rfl, rfl⟩ | ⟨rfl, rfl, rfl⟩⟩ := hrel
    · go_wp2_with fail
      go_roundg 1
      case measure => omega
      case rel => exact ⟨rfl, .inr (.inl ⟨rfl, rfl, by go_num⟩)⟩
    · go_wp2_with fail
      go_roundg 0
      case measure => omega
      case rel => exact ⟨rfl, .inr (.inr ⟨rfl, rfl, by go_num⟩)⟩
    · go_wp2_with (go_at_call 146; refine (hgr.out _).mono ?_; rintro ee w1 ⟨v1, rfl, ho1, hx1⟩)
      clear q0 q1 hbl hgr
      go_loopg [6, 27] 2 (fun g vv i wr2 => ∃ acc, OwnR wr2 wr.heap.size vv acc ∧ Ext wr wr2 ∧ ((g = 2 ∧ i = .int .i64 0 ∧ acc = []) ∨ (g = 1 ∧ i = .int .i64 1 ∧ acc = l) ∨ (g = 0 ∧ i = .int .i64 2 ∧ acc = l ++ m)))
      case atStart => exact ⟨[], ho1, hx1, .inl ⟨rfl, rfl, rfl⟩⟩
      case round =>
        obtain ⟨acc, ho, hX, ⟨rfl, rfl, rfl⟩ | ⟨rfl, rfl, rfl⟩ | ⟨rfl, rfl, rfl⟩⟩ := hrel
        · have hbx := hb'.out.ext hX
          have q0 := hbx.cell 0 rfl
          have hzX := hX.size
          go_wp2_with (at_builtin; (refine wpl_app tVal rfl (.tmp 31) (.tmp 32) rfl rfl ho rfl (src_sl Tryz.underlying33 (Sl.ext hl.out hX) (rc_one _) (by omega)) (by unfold maxLen; simp only [List.length_nil]; omega) (by simp only [List.length_nil]; omega) hzX ?_; intro v2 w2 ho2 hg2 _))
          go_roundg 1
          case measure => omega
          case rel => exact ⟨l, (by have := own_appR (l := []) ho2; simpa using this), ext_grown hX hg2 (fun k hk => (ho.lt k hk).1), .inr (.inl ⟨rfl, rfl, rfl⟩)⟩
        · have hbx := hb'.out.ext hX
          have q1 := hbx.cell 1 rfl
          have hzX := hX.size
          go_wp2_with (at_builtin; (refine wpl_app tVal rfl (.tmp 31) (.tmp 32) rfl rfl ho rfl (src_sl Tryz.underlying33 (Sl.ext hm.out hX) (rc_one _) (by omega)) (by unfold maxLen; omega) (by omega) hzX ?_; intro v2 w2 ho2 hg2 _))
          go_roundg 0
          case measure => omega
          case rel => exact ⟨acc ++ m, own_appR ho2, ext_grown hX hg2 (fun k hk => (ho.lt k hk).1), .inr (.inr ⟨rfl, rfl, rfl⟩)⟩
        · go_wp2_with fail
          go_returns
          exact ⟨_, rfl, ho, hX⟩
/-- Rows one behind the other: what is wrong, and the row. -/
def joinE (l m : List Vl) : Int := if mayR l && mayR m then (if 8 < l.length + m.length then 6 else 0) else 2
def joinV (l m : List Vl) : List Vl := if joinE l m = 0 then l ++ m else []
theorem join_no {l m : List Vl} (h : (mayR l && mayR m) = false) : joinE l m = 2 ∧ joinV l m = [] := by
  have e : joinE l m = 2 := by unfold joinE; rw [h]; rfl
  exact ⟨e, by unfold joinV; rw [e, if_neg (by decide)]⟩
theorem join_long {l m : List Vl} (h : (mayR l && mayR m) = true) (h8 : 8 < l.length + m.length) : joinE l m = 6 ∧ joinV l m = [] := by
  have e : joinE l m = 6 := by unfold joinE; rw [if_pos h, if_pos h8]
  exact ⟨e, by unfold joinV; rw [e, if_neg (by decide)]⟩
theorem join_ok {l m : List Vl} (h : (mayR l && mayR m) = true) (h8 : l.length + m.length ≤ 8) : joinE l m = 0 ∧ joinV l m = l ++ m := by
  have e : joinE l m = 0 := by unfold joinE; rw [if_pos h, if_neg (by omega)]
  exact ⟨e, by unfold joinV; rw [if_pos e]⟩
set_option maxHeartbeats 4000000 in
set_option maxRecDepth 100000 in
theorem rowJoin_c (l m : List Vl) (v u : Value) (w : World) (hl : Rw w [] v l) (hm : Rw w [] u m) : Calls Tryz.prog 71 #[v, u] w fun e w' => ∃ v', e = .returned (.tuple #[v', .int .i64 (joinE l m)]) ∧ OwnR w' w.heap.size v' (joinV l m) ∧ Ext w w' := by
  have h1 := hide (fun w' (hX : Ext w w') => rowMay_c l v w' (Sl.ext hl hX))
  have h2 := hide (fun w' (hX : Ext w w') => rowMay_c m u w' (Sl.ext hm hX))
  have hX0 := hide (Ext.refl w)
  obtain ⟨A, cap, rfl, hlc, hlm, -⟩ := rw_form hl
  obtain ⟨B, cap2, rfl, hmc, hmm, -⟩ := rw_form hm
  unfold maxLen at hlm hmm
  cases ha : mayR l
  · obtain ⟨e1, e2⟩ := join_no (l := l) (m := m) (by rw [ha]; rfl)
    rw [e1, e2]
    rw [ha] at h1
    clear ha hl hm e1 e2
    go_enter Tryz.func71, Tryz.ntmps71
    go_wp2_with (go_at_call 53; (with_reducible refine seq_gw (h1.out _ hX0.out) ?_); intro g)
    go_returns
    exact ⟨_, rfl, World.ownsRow_nil _ _ _ _, g.grown⟩
  cases hb : mayR m
  · obtain ⟨e1, e2⟩ := join_no (l := l) (m := m) (by rw [ha, hb]; rfl)
    rw [e1, e2]
    rw [ha] at h1
    rw [hb] at h2
    clear ha hb hl hm e1 e2
    go_enter Tryz.func71, Tryz.ntmps71
    go_wp2_with (first | (go_at_call 53; (with_reducible refine seq_gw (h1.out _ hX0.out) ?_); intro g) | (go_at_call 53; (with_reducible refine seq_gw' (h2.out _ g.grown) ?_); intro g2))
    go_returns
    exact ⟨_, rfl, World.ownsRow_nil _ _ _ _, g2.grown⟩
  have l8 := (mayR_iff.1 ha).1
  have m8 := (mayR_iff.1 hb).1
  have hab : (mayR l && mayR m) = true := by rw [ha, hb]; rfl
  rw [ha] at h1
  rw [hb] at h2
  clear ha hb
  by_cases h8 : 8 < l.length + m.length
  · obtain ⟨e1, e2⟩ := join_long hab h8
    rw [e1, e2]
    have h8I : (8 : Int) < (l.length : Int) + m.length := by omega
    clear hl hm e1 e2 hab
    go_enter Tryz.func71, Tryz.ntmps71
    go_wp2_with (first | (go_at_call 53; (with_reducible refine seq_gw (h1.out _ hX0.out) ?_); intro g) | (go_at_call 53; (with_reducible refine seq_gw' (h2.out _ g.grown) ?_); intro g2))
    go_returns
    exact ⟨_, rfl, World.ownsRow_nil _ _ _ _, g2.grown⟩
  · obtain ⟨e1, e2⟩ := join_ok hab (by omega)
    rw [e1, e2]
    have h8' : l.length + m.length ≤ 8 := by omega
    have h8I : (l.length : Int) + m.length ≤ 8 := by omega
    replace hl := hide hl
    replace hm := hide hm
    clear e1 e2 hab h8
    go_enter Tryz.func71, Tryz.ntmps71
    go_wp2_with (first | (go_at_call 53; (with_reducible refine seq_gw (h1.out _ hX0.out) ?_); intro g) | (go_at_call 53; (with_reducible refine seq_gw' (h2.out _ g.grown) ?_); intro g2) | (go_at_call 116; refine (rowConcat_c l m _ _ _ _ (Sl.ext hl.out (g2.grown.alloc _)) (Sl.ext hm.out (g2.grown.alloc _)) h8' (Ob.new g2.val _ _)).mono ?_; rintro ee w3 ⟨v3, rfl, ho3, hx3⟩))
    go_returns
    have hz := GW.size g2
    exact ⟨_, rfl, own_base ho3 (by simp only [World.size_alloc]; omega), (g2.grown.alloc _).trans hx3⟩
end Go.Proofs.YtljkneajdndgjabGreat
set_option linter.unusedVariables false
set_option linter.unusedSimpArgs false
namespace Go.Proofs.YtljkneajdndgjabGreat
open Go.RowKit
--BEGIN
/-- How many a word takes. -/
def tkI (c : Int) : Int := if c < 1 ∨ 20 < c then -1 else if c ≤ 3 then 0 else if c ≤ 6 then 1 else 2
theorem tkI_cases (c : Int) : tkI c = -1 ∨ tkI c = 0 ∨ tkI c = 1 ∨ tkI c = 2 := by unfold tkI; split <;> (try split) <;> (try split) <;> simp
theorem tkI_iff0 {c : Int} : tkI c = 0 ↔ 1 ≤ c ∧ c ≤ 3 := by unfold tkI; split <;> (try split) <;> (try split) <;> omega
theorem tkI_iff1 {c : Int} : tkI c = 1 ↔ 4 ≤ c ∧ c ≤ 6 := by unfold tkI; split <;> (try split) <;> (try split) <;> omega
theorem tkI_iff2 {c : Int} : tkI c = 2 ↔ 7 ≤ c ∧ c ≤ 20 := by unfold tkI; split <;> (try split) <;> (try split) <;> omega
theorem tkI_neg {c : Int} : tkI c = -1 ↔ c < 1 ∨ 20 < c := by unfold tkI; split <;> (try split) <;> (try split) <;> omega
/-- Is it a word? -/
def okW (o : Vl) : Bool :=
  if o.1 = 1 then decide (o.2.2.size = 0)
  else if o.1 = 2 then decide (o.2.1 = 0) && decide (o.2.2.size ≤ 64)
  else if o.1 = 3 then decide (0 ≤ o.2.1 ∧ o.2.1 < 8) && decide (o.2.2.size = 0)
  else decide (0 ≤ tkI o.1) && (decide (o.2.1 = 0) && decide (o.2.2.size = 0))
theorem okW_tk {o : Vl} (h : okW o = true) : tkI o.1 = 0 ∨ tkI o.1 = 1 ∨ tkI o.1 = 2 := by
  unfold okW at h
  by_cases h1 : o.1 = 1
  · rw [h1]; exact .inl (by decide)
  rw [if_neg h1] at h
  by_cases h2 : o.1 = 2
  · rw [h2]; exact .inl (by decide)
  rw [if_neg h2] at h
  by_cases h3 : o.1 = 3
  · rw [h3]; exact .inl (by decide)
  rw [if_neg h3, Bool.and_eq_true, decide_eq_true_iff] at h
  rcases tkI_cases o.1 with e | e | e | e
  · omega
  · exact .inl e
  · exact .inr (.inl e)
  · exact .inr (.inr e)
/-- An expression. -/
inductive Tr
  | leaf (o : Vl)
  | one (o : Vl) (a : Tr)
  | two (o : Vl) (a b : Tr)
def Tr.flat : Tr → List Vl
  | .leaf o => [o]
  | .one o a => a.flat ++ [o]
  | .two o a b => a.flat ++ (b.flat ++ [o])
def Tr.good : Tr → Prop
  | .leaf o => okW o = true ∧ tkI o.1 = 0
  | .one o a => okW o = true ∧ tkI o.1 = 1 ∧ a.good
  | .two o a b => okW o = true ∧ tkI o.1 = 2 ∧ a.good ∧ b.good
/-- What is wrong, with h results that nothing has taken. -/
def fE : Int → List Vl → Int
  | h, [] => if h = 1 then 0 else 18
  | h, o :: r => if okW o = true ∧ tkI o.1 ≤ h then fE (h + 1 - tkI o.1) r else 18
def formE (l : List Vl) : Int := if 64 < l.length then 6 else fE 0 l
theorem fE_flat : ∀ (t : Tr), t.good → ∀ (h : Int) (r : List Vl), 0 ≤ h → fE h (t.flat ++ r) = fE (h + 1) r
  | .leaf o, g, h, r, h0 => by
    show fE h (o :: r) = _
    rw [fE, if_pos ⟨g.1, by rw [g.2]; exact h0⟩, g.2]; congr 1; omega
  | .one o a, g, h, r, h0 => by
    show fE h ((a.flat ++ [o]) ++ r) = _
    rw [List.append_assoc, fE_flat a g.2.2 h _ h0]
    show fE (h + 1) (o :: r) = _
    rw [fE, if_pos ⟨g.1, by rw [g.2.1]; omega⟩, g.2.1]; congr 1; omega
  | .two o a b, g, h, r, h0 => by
    show fE h ((a.flat ++ (b.flat ++ [o])) ++ r) = _
    rw [List.append_assoc, List.append_assoc, fE_flat a g.2.2.1 h _ h0, fE_flat b g.2.2.2 (h + 1) _ (by omega)]
    show fE (h + 1 + 1) (o :: r) = _
    rw [fE, if_pos ⟨g.1, by rw [g.2.1]; omega⟩, g.2.1]; congr 1; omega
/-- The trees of a stack, the last one first. -/
theorem fE_stack : ∀ (l : List Vl) (st : List Tr), (∀ t ∈ st, t.good) → fE st.length l = 0 → ∃ t : Tr, t.good ∧ st.reverse.flatMap Tr.flat ++ l = t.flat
  | [], st, hg, h => by
    unfold fE at h
    by_cases h1 : (st.length : Int) = 1
    · obtain ⟨t, rfl⟩ := List.length_eq_one_iff.1 (by omega : st.length = 1)
      exact ⟨t, hg t (by simp), by simp⟩
    · rw [if_neg h1] at h; omega
  | o :: r, st, hg, h => by
    unfold fE at h
    by_cases hc : okW o = true ∧ tkI o.1 ≤ (st.length : Int)
    · rw [if_pos hc] at h
      obtain ⟨ho, ht⟩ := hc
      rcases okW_tk ho with e | e | e
      · obtain ⟨t, g, he⟩ := fE_stack r (.leaf o :: st) (by
          intro t ht'; rcases List.mem_cons.1 ht' with rfl | ht'
          · exact ⟨ho, e⟩
          · exact hg t ht') (by rw [← h]; congr 1; rw [e, List.length_cons]; omega)
        refine ⟨t, g, ?_⟩
        rw [← he]; simp [Tr.flat]
      · match st, hg, h, ht with
        | [], _, _, ht => rw [e] at ht; simp at ht
        | a :: st, hg, h, ht =>
          obtain ⟨t, g, he⟩ := fE_stack r (.one o a :: st) (by
            intro t ht'; rcases List.mem_cons.1 ht' with rfl | ht'
            · exact ⟨ho, e, hg a (by simp)⟩
            · exact hg t (by simp [ht'])) (by rw [← h]; congr 1; rw [e, List.length_cons, List.length_cons]; omega)
          refine ⟨t, g, ?_⟩
          rw [← he]; simp [Tr.flat]
      · match st, hg, h, ht with
        | [], _, _, ht => rw [e] at ht; simp at ht
        | [_], _, _, ht => rw [e] at ht; simp at ht
        | b :: a :: st, hg, h, ht =>
          obtain ⟨t, g, he⟩ := fE_stack r (.two o a b :: st) (by
            intro t ht'; rcases List.mem_cons.1 ht' with rfl | ht'
            · exact ⟨ho, e, hg a (by simp), hg b (by simp)⟩
            · exact hg t (by simp [ht'])) (by rw [← h]; congr 1; rw [e]; simp only [List.length_cons]; omega)
          refine ⟨t, g, ?_⟩
          rw [← he]; simp [Tr.flat]
    · rw [if_neg hc] at h; omega
theorem fE_tree {l : List Vl} (h : fE 0 l = 0) : ∃ t : Tr, t.good ∧ l = t.flat := by
  obtain ⟨t, g, e⟩ := fE_stack l [] (by simp) (by simpa using h)
  exact ⟨t, g, by simpa using e⟩
theorem fE_of {t : Tr} (g : t.good) : fE 0 t.flat = 0 := by
  have := fE_flat t g 0 [] (by omega)
  rw [List.append_nil] at this
  rw [this]; simp [fE]
theorem formE_tree {l : List Vl} (h : formE l = 0) : ∃ t : Tr, t.good ∧ l = t.flat ∧ l.length ≤ 64 := by
  unfold formE at h
  by_cases h64 : 64 < l.length
  · rw [if_pos h64] at h; omega
  · rw [if_neg h64] at h
    obtain ⟨t, g, e⟩ := fE_tree h
    exact ⟨t, g, e, by omega⟩
/-- A machine with a stack: f says what a word makes of what it takes. -/
def stR {α : Type} (f : Vl → List α → Except Int α) : List α → List Vl → Except Int (List α)
  | st, [] => .ok st
  | st, o :: r => match f o (st.drop (st.length - (tkI o.1).toNat)) with
    | .error e => .error e
    | .ok v => stR f (st.take (st.length - (tkI o.1).toNat) ++ [v]) r
/-- An expression's answer, by its parts'. -/
def evT {α : Type} (f : Vl → List α → Except Int α) : Tr → Except Int α
  | .leaf o => f o []
  | .one o a => match evT f a with
    | .error e => .error e
    | .ok x => f o [x]
  | .two o a b => match evT f a with
    | .error e => .error e
    | .ok x => match evT f b with
      | .error e => .error e
      | .ok y => f o [x, y]
theorem stR_flat {α : Type} (f : Vl → List α → Except Int α) : ∀ (t : Tr), t.good → ∀ (st : List α) (r : List Vl), stR f st (t.flat ++ r) = match evT f t with
    | .error e => .error e
    | .ok v => stR f (st ++ [v]) r
  | .leaf o, g, st, r => by
    show stR f st (o :: r) = _
    simp only [stR, evT, g.2]
    rw [show st.length - (0 : Int).toNat = st.length by simp, List.drop_length, List.take_length]
  | .one o a, g, st, r => by
    show stR f st ((a.flat ++ [o]) ++ r) = _
    rw [List.append_assoc, stR_flat f a g.2.2 st]
    simp only [evT]
    cases evT f a with
    | error e => rfl
    | ok x =>
      show stR f (st ++ [x]) (o :: r) = _
      simp only [stR, g.2.1]
      rw [show (st ++ [x]).length - (1 : Int).toNat = st.length by simp, List.drop_left, List.take_left]
  | .two o a b, g, st, r => by
    show stR f st ((a.flat ++ (b.flat ++ [o])) ++ r) = _
    rw [List.append_assoc, List.append_assoc, stR_flat f a g.2.2.1 st]
    simp only [evT]
    cases evT f a with
    | error e => rfl
    | ok x =>
      simp only
      rw [stR_flat f b g.2.2.2 (st ++ [x])]
      cases evT f b with
      | error e => rfl
      | ok y =>
        show stR f (st ++ [x] ++ [y]) (o :: r) = _
        simp only [stR, g.2.1]
        rw [show st ++ [x] ++ [y] = st ++ [x, y] by simp, show (st ++ [x, y]).length - (2 : Int).toNat = st.length by simp, List.drop_left, List.take_left]
theorem stR_all {α : Type} (f : Vl → List α → Except Int α) (t : Tr) (g : t.good) : stR f [] t.flat = match evT f t with
    | .error e => .error e
    | .ok v => .ok [v] := by
  have := stR_flat f t g [] []
  rw [List.append_nil] at this
  rw [this]; rfl
--END
end Go.Proofs.YtljkneajdndgjabGreat
set_option linter.unusedVariables false
set_option linter.unusedSimpArgs false
namespace Go.Proofs.YtljkneajdndgjabGreat
open Go.RowKit
/-- A column: its name, and its kind. -/
abbrev Cl := ByteArray × Int
end Go.Proofs.YtljkneajdndgjabGreat
