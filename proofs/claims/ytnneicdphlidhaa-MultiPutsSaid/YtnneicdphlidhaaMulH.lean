/-
  A helper of ours: no claim of its own. Layer 24 (multi): one thing inserted ahead of another, where there is no room; Insert in all its cases.
-/
import Derived.Test.YtnneicdphlidhaaMulG
set_option linter.unusedVariables false
set_option linter.unusedSimpArgs false
namespace Go.Proofs.Ytnneicdphlidhaa
open Go.RowKit Go.Shelf Go.Lib
attribute [local go_sem] GW.cell GW.frozen In.eq_true In.le_true In.ne In.ne' In.ne_add In.ne_add' In.lt_add Upto.le_true Upto.le_add Upto.lt_add
theorem mext_setCells {W : World} {g : Nat} (hg : W.heap.size ≤ g) : ∀ (vs : List Value) (o : Nat) (w : World), Ext W w → Ext W (w.setCells g o vs)
  | [], _, _, h => h
  | v :: r, o, w, h => mext_setCells hg r (o + 1) _ (h.setCell hg v)
theorem sets_ins2 (l : List Tg) (p : Nat) (k c : Int) (hp : p < l.length) (xs : List Value) (hx : xs.length = (l.length + 1) * 2) (ht : xs.take (p * 2) = tgs (l.take p)) :
    sets (sets xs (p * 2) [.int .i64 k, .int .i64 c]) ((p + 1) * 2) (tgs (l.drop p)) = tgs (l.take p ++ (k, c) :: l.drop p) := by
  have hd : (tgs (l.drop p)).length = (l.length - p) * 2 := by rw [tgs_length, List.length_drop]
  have ht' : (tgs (l.take p)).length = p * 2 := by rw [tgs_length, List.length_take, Nat.min_eq_left (by omega)]
  have hc : tgs ((k, c) :: l.drop p) = [.int .i64 k, .int .i64 c] ++ tgs (l.drop p) := rfl
  apply List.ext_getElem?
  intro i
  rw [sets_get, sets_get, sets_length, tgs_app, List.getElem?_append, ht', hd, hx, ← ht, hc]
  simp only [List.length_cons, List.length_nil]
  by_cases h1 : i < p * 2
  · rw [if_neg (by omega), if_neg (by omega), if_pos h1, List.getElem?_take, if_pos h1]
  · rw [if_neg h1]
    by_cases h2 : i < (p + 1) * 2
    · rw [if_neg (by omega), if_pos (by omega), List.getElem?_append_left (by simp; omega)]
    · rw [List.getElem?_append_right (by simp; omega)]
      by_cases h3 : i < (l.length + 1) * 2
      · rw [if_pos (by omega)]
        congr 1
        simp
        omega
      · rw [if_neg (by omega), if_neg (by omega), List.getElem?_eq_none (by omega), List.getElem?_eq_none (by rw [hd]; simp; omega)]
set_option maxHeartbeats 8000000 in
set_option maxRecDepth 1000000 in
theorem minsert_grow (base g cap xb p : Nat) (k c : Int) (l : List Tg) (w : World) (h : w.ownsRow base 69 2 (.slice (some ⟨g, 0, none⟩) l.length cap) l.length (tgs l)) (hbase : base ≤ w.heap.size) (hn : l.length ≤ 1048576) (hp : p < l.length) (hr : cap < l.length + 1)
    (hx : Ob w xb 69 [.int .i64 k, .int .i64 c]) :
    Calls Try.prog 43 #[.slice (some ⟨g, 0, none⟩) l.length cap, .int .i64 p, .slice (some ⟨xb, 0, none⟩) 1 1] w fun e w' =>
      ∃ v', e = .returned v' ∧ w'.ownsRow base 69 2 v' (l.length + 1) (tgs (l.take p ++ (k, c) :: l.drop p)) ∧ Ext w w' ∧ v'.ownBlock = some w.heap.size := by
  have hc2 : l.length ≤ cap := by
    rcases h.2 with ⟨h', _⟩ | ⟨g', cap', cur, h', hb, hg, hnc, hcm, hcs, htake⟩
    · simp at h'
    · simp only [Value.slice.injEq] at h'
      obtain ⟨_, _, rfl⟩ := h'
      exact hnc
  obtain ⟨i0, hi0, hz0, hzs, hzb⟩ := tThing.info
  have x0 := hx.cell 0 rfl
  have x1 := hx.cell 1 rfl
  have hgl := (World.ownsRow.lt h g rfl).2
  have hxw := hx.lt
  have hcell := World.ownsRow.cellAt h
  obtain ⟨n, hnl⟩ : ∃ n, n = l.length := ⟨_, rfl⟩
  obtain ⟨cs, hcs⟩ : ∃ cs, cs = tgs (l.drop p) := ⟨_, rfl⟩
  obtain ⟨ah, hah⟩ : ∃ ah, ah = tgs (l.take p) := ⟨_, rfl⟩
  have hcl : cs.length = (n - p) * 2 := by rw [hcs, tgs_length, List.length_drop, hnl]
  have hal : ah.length = p * 2 := by rw [hah, tgs_length, List.length_take, Nat.min_eq_left (by omega)]
  have hins := fun xs hx' ht' => sets_ins2 l p k c hp xs hx' ht'
  rw [← hcs] at hins
  rw [← hah] at hins
  rw [← hnl] at h hp hr hn hc2 hcell hins ⊢
  have hget : ∀ j v, cs[j]? = some v → w.cell? ⟨g, p * 2 + j, none⟩ = some v := by
    intro j v hj
    have hjl := (List.getElem?_eq_some_iff.1 hj).1
    rw [hcell _ (by omega)]
    rwa [hcs, ← tgs_drop, List.getElem?_drop] at hj
  have hgetA : ∀ j v, ah[j]? = some v → w.cell? ⟨g, j, none⟩ = some v := by
    intro j v hj
    have hjl := (List.getElem?_eq_some_iff.1 hj).1
    rw [hcell _ (by omega)]
    rw [hah, ← tgs_take, List.getElem?_take, if_pos (by omega)] at hj
    exact hj
  have hone1 : ∀ v ∈ cs, v.oneCell' = true := by rw [hcs]; exact tgs_one _
  have hz2 : ¬ ((p : Int) = (n : Int)) := by omega
  have hsz : (Try.prog.info? 69).map (·.size) = some 2 := by rw [hi0]; simp [hzs]
  have hkk : (n : Int) + 1 - (p : Int) = ((n + 1 - p : Nat) : Int) := by omega
  have hik : p + (n + 1 - p) = n + 1 := by omega
  have hold : (Builtin.firstCells i0.size p (.slice (some ⟨g, 0, none⟩) p cap)).run Try.prog w.drew = .ok ah.toArray w.drew := by
    rw [hzs]
    exact run_firstCells_some w.drew 2 p ⟨g, 0, none⟩ p cap ah hal (fun j v hj => by rw [add_plain, Nat.zero_add]; exact hgetA j v hj)
  have hrz : ∀ ty, (Builtin.append_ #[63, 3] ty #[.slice (some ⟨g, 0, none⟩) p cap, .int .i64 ((n : Int) + 1 - (p : Int))]).run Try.prog w =
      .ok (.slice (some ⟨w.heap.size, 0, none⟩) (n + 1) (grownCap w (n + 1) cap 69)) (w.drew.alloc (.cells (ah.toArray ++ Builtin.zeroCells (Value.agg #[.int .i64 0, .int .i64 0]).cells (n + 1 - p) ++ Builtin.zeroCells (Value.agg #[.int .i64 0, .int .i64 0]).cells (grownCap w (n + 1) cap 69 - (n + 1))) 69)) := fun ty => by
    have h := Lib.run_append_grow_zeros w 63 3 ty 69 i0 _ .i64 .i64 Try.underlying63 Try.underlying3 hi0 hz0 (some ⟨g, 0, none⟩) p cap ah hold (n + 1 - p) (by omega) (by omega) (by omega) (by omega) (by rw [hzb]; omega) (by rw [hzb, hik]; exact growslice_fits hr (by omega))
    rw [hik] at h
    rw [hkk]
    exact h
  have hGn : n + 1 ≤ grownCap w (n + 1) cap 69 := grownCap_ge w _ _ _
  have hG62 := grownCap_le_maxLen w (n + 1) cap 69 (by unfold maxLen; omega)
  generalize grownCap w (n + 1) cap 69 = G at hrz hGn hG62
  have hG63 : G ≤ 9223372036854775807 := by unfold maxLen at hG62; omega
  obtain ⟨ROW, hROW⟩ : ∃ ROW : Array Value, ROW = ah.toArray ++ Builtin.zeroCells (Value.agg #[.int .i64 0, .int .i64 0]).cells (n + 1 - p) ++ Builtin.zeroCells (Value.agg #[.int .i64 0, .int .i64 0]).cells (G - (n + 1)) := ⟨_, rfl⟩
  rw [← hROW] at hrz
  have hz2' : (Value.agg #[Value.int .i64 0, .int .i64 0]).cells.size = 2 := rfl
  have hRl : ROW.size = G * 2 := by
    rw [hROW, Array.size_append, Array.size_append, size_zeroCells, size_zeroCells, hz2', List.size_toArray, hal]
    omega
  have hRt : ROW.toList.take (p * 2) = ah := by
    rw [hROW, Array.toList_append, Array.toList_append, List.append_assoc, List.take_append_of_le_length (by rw [hal]; exact Nat.le_refl _)]
    rw [← hal]; exact List.take_length
  obtain ⟨W1, hW1⟩ : ∃ W1, W1 = w.drew.alloc (.cells ROW 69) := ⟨_, rfl⟩
  rw [← hW1] at hrz
  obtain ⟨xs', hxs'⟩ : ∃ xs', xs' = ROW.toList.take ((n + 1) * 2) := ⟨_, rfl⟩
  have hxl : xs'.length = (n + 1) * 2 := by rw [hxs', List.length_take, Array.length_toList, hRl]; omega
  have hxt : xs'.take (p * 2) = ah := by rw [hxs', List.take_take, Nat.min_eq_left (by omega), hRt]
  have hO1 : W1.ownsRow base 69 2 (.slice (some ⟨w.heap.size, 0, none⟩) (n + 1) G) (n + 1) xs' := by
    refine ⟨hxl, .inr ⟨w.heap.size, G, ROW, rfl, hbase, ?_, hGn, hG62, hRl, hxs'.symm⟩⟩
    rw [hW1]
    exact heap_alloc_new w.drew _
  have hE1 : Ext w W1 := by rw [hW1]; exact (Ext.refl w).drew.alloc _
  have hcell1 := World.ownsRow.cellAt hO1
  have hfr1 := World.ownsRow.frozenAt hO1
  have hOb : ∀ j v, w.cell? ⟨g, j, none⟩ = some v → W1.cell? ⟨g, j, none⟩ = some v := fun j v q => by rw [hW1, World.cell?_alloc_past (w := w.drew) _ g j hgl]; exact q
  have hxW := hx.ext hE1
  have y0 := hxW.cell 0 rfl
  have y1 := hxW.cell 1 rfl
  have hO2 := own_sets [.int .i64 k, .int .i64 c] (p * 2) _ _ hO1
  have hcell2 := World.ownsRow.cellAt hO2
  have hfr2 := World.ownsRow.frozenAt hO2
  have hcpA : ∀ (W : World), (∀ x, W.cell? x = W1.cell? x) → (∀ x, W.frozen? x = W1.frozen? x) → ∀ ty dc, (Builtin.copy_ #[63, 63] ty #[.slice (some ⟨w.heap.size, p * 2, none⟩) (n + 1 - p) dc, .slice (some ⟨xb, 0, none⟩) 1 1]).run Try.prog W = .ok (goInt (Nat.min 1 (n + 1 - p))) (W.setCells w.heap.size (p * 2) [.int .i64 k, .int .i64 c]) := fun W hWc hWf ty dc => by
    refine mrun_copy W _ _ ty 69 2 w.heap.size (p * 2) (n + 1 - p) dc ⟨xb, 0, none⟩ 1 1 [.int .i64 k, .int .i64 c] Try.underlying63 hsz (by simp only [Nat.min_def, List.length_cons, List.length_nil]; split <;> omega)
      (fun j v hj => ?_) (fun j hj => ?_) (fun j hj => by rw [hWf]; exact hfr1 _) (fun v hv => by simp at hv; rcases hv with rfl | rfl <;> rfl)
    · rw [add_plain, Nat.zero_add, hWc]
      match j, hj with
      | 0, hj => cases hj; exact y0
      | 1, hj => cases hj; exact y1
      | j + 2, hj => simp at hj
    · simp only [List.length_cons, List.length_nil] at hj
      rw [hWc, hcell1 _ (by omega), List.getElem?_eq_getElem (by omega)]; rfl
  have hbN : g ≠ w.heap.size := by omega
  have hcpB : ∀ (W : World), (∀ x, W.cell? x = (W1.setCells w.heap.size (p * 2) [.int .i64 k, .int .i64 c]).cell? x) → (∀ x, W.frozen? x = (W1.setCells w.heap.size (p * 2) [.int .i64 k, .int .i64 c]).frozen? x) → ∀ ty dc sc, (Builtin.copy_ #[63, 63] ty #[.slice (some ⟨w.heap.size, (p + 1) * 2, none⟩) (n - p) dc, .slice (some ⟨g, p * 2, none⟩) (n - p) sc]).run Try.prog W = .ok (goInt (Nat.min (n - p) (n - p))) (W.setCells w.heap.size ((p + 1) * 2) cs) := fun W hWc hWf ty dc sc =>
    mrun_copy W _ _ ty 69 2 w.heap.size ((p + 1) * 2) (n - p) dc ⟨g, p * 2, none⟩ (n - p) sc cs Try.underlying63 hsz (by rw [hcl]; simp only [Nat.min_def]; split <;> omega)
      (fun j v hj => by
        rw [add_plain, hWc, World.cell?_setCells_out _ _ _ _ _ (fun h _ => absurd h hbN)]
        exact hOb _ v (hget j v hj))
      (fun j hj => by rw [hWc, hcell2 _ (by omega), List.getElem?_eq_getElem (by rw [sets_length]; omega)]; rfl)
      (fun j hj => by rw [hWf]; exact hfr2 _) hone1
  subst hW1
  have hO1' : ((w.alloc (.cells ROW 69)).drew).ownsRow base 69 2 (.slice (some ⟨w.heap.size, 0, none⟩) (n + 1) G) (n + 1) xs' := hO1
  have hO2' : (((w.alloc (.cells ROW 69)).drew.setCells w.heap.size (p * 2) [.int .i64 k, .int .i64 c]).drew).ownsRow base 69 2 (.slice (some ⟨w.heap.size, 0, none⟩) (n + 1) G) (n + 1) (sets xs' (p * 2) [.int .i64 k, .int .i64 c]) := own_sets [.int .i64 k, .int .i64 c] (p * 2) _ _ hO1'
  have hO3 := hide (own_sets cs ((p + 1) * 2) _ _ hO2')
  rw [hins xs' hxl hxt] at hO3
  have hE3 := hide (mext_setCells (Nat.le_refl _) cs ((p + 1) * 2) _ (mext_setCells (Nat.le_refl _) [.int .i64 k, .int .i64 c] (p * 2) _ ((Ext.refl w).alloc (.cells ROW 69)).drew).drew)
  have hA1 : ∀ x, ((w.alloc (.cells ROW 69)).drew).cell? x = (w.drew.alloc (.cells ROW 69)).cell? x := fun x => rfl
  have hA2 : ∀ x, ((w.alloc (.cells ROW 69)).drew).frozen? x = (w.drew.alloc (.cells ROW 69)).frozen? x := fun x => rfl
  have hB1 : ∀ x, (((w.alloc (.cells ROW 69)).drew.setCells w.heap.size (p * 2) [.int .i64 k, .int .i64 c]).drew).cell? x = ((w.drew.alloc (.cells ROW 69)).setCells w.heap.size (p * 2) [.int .i64 k, .int .i64 c]).cell? x := fun x => rfl
  have hB2 : ∀ x, (((w.alloc (.cells ROW 69)).drew.setCells w.heap.size (p * 2) [.int .i64 k, .int .i64 c]).drew).frozen? x = ((w.drew.alloc (.cells ROW 69)).setCells w.heap.size (p * 2) [.int .i64 k, .int .i64 c]).frozen? x := fun x => rfl
  have mixed : Try.prog.follows .mixedOrders = true := by kernel_rfl
  have hz3 : (cap : Int) < (n : Int) + 1 := by omega
  have hGi : ¬ (G = p) := by omega
  have hGim : ¬ (G = p + 1) := by omega
  have hci : ¬ (cap = p) := by omega
  have hw1 : IntKind.i64.wrap ((p : Int) + 1) = (p : Int) + 1 := by rw [IntKind.wrap_i64]; omega
  have hb1 : (0 : Int) ≤ (p : Int) + 1 := by omega
  have hin : p ≤ n := by omega
  have htn : ((p : Int) + 1).toNat = p + 1 := by omega
  have hb3 : (p : Int) ≤ (n : Int) := by omega
  have hb5 : (p : Int) + 1 ≤ (n : Int) + 1 := by omega
  have hpn : p + 1 ≤ n + 1 := by omega
  have hpc : p ≤ cap := by omega
  clear hO1' hO2' hkk hik hold hRl hRt hxs' hxl hxt hO1 hE1 hcell hcell1 hfr1 hOb hxW y0 y1 hO2 hcell2 hfr2 hget hgetA hone1 hins hcs hcl hah hal hROW x0 x1 h hx hnl hz2'
  haveI : In g w := ⟨hgl⟩
  go_enter Try.func43, Try.ntmps43
  go_wp2_with (first
    | (at_builtin; refine Lib.wpList_append_run _ rfl _ _ _ _ rfl _ _ rfl rfl _ _ (hrz _) ?_)
    | (at_builtin; refine wpList_copy_runI _ rfl _ _ 63 63 rfl _ _ rfl rfl (hcpA _ hA1 hA2 _ _) ?_))
  go_region_law_o (refine step_copy_runI rfl _ _ 63 63 rfl (.slice (some ⟨w.heap.size, (p + 1) * 2, none⟩) (n - p) (G - (p + 1))) (.slice (some ⟨g, p * 2, none⟩) (n - p) (cap - p)) (by simp [Act.eval, Act.put]) (by simp [Act.eval, Act.put]) (hcpB _ hB1 hB2 3 (G - (p + 1)) (cap - p)) ?_)
  go_wp2
  go_returns
  exact ⟨.slice (some ⟨w.heap.size, 0, none⟩) (n + 1) G, rfl, hO3.out, hE3.out, rfl⟩
set_option maxHeartbeats 4000000 in
/-- Insert of one thing, wherever. -/
theorem minsert_c (base xb p : Nat) (k c : Int) (v : Value) (l : List Tg) (w : World) (h : w.ownsRow base 69 2 v l.length (tgs l)) (hbase : base ≤ w.heap.size) (hn : l.length ≤ 1048576) (hp : p ≤ l.length)
    (hx : Ob w xb 69 [.int .i64 k, .int .i64 c]) (S : List Nat) (hS : ∀ b, v.ownBlock = some b → b ∈ S) (hxS : xb ∉ S) :
    Calls Try.prog 43 #[v, .int .i64 p, .slice (some ⟨xb, 0, none⟩) 1 1] w fun e w' =>
      ∃ v', e = .returned v' ∧ w'.ownsRow base 69 2 v' (l.length + 1) (tgs (l.take p ++ (k, c) :: l.drop p)) ∧ Fr S w w' ∧ ∀ b, v'.ownBlock = some b → b ∈ S ∨ w.heap.size ≤ b := by
  rcases Nat.lt_or_ge p l.length with hlt | hge
  · have hform : ∃ g cap, v = .slice (some ⟨g, 0, none⟩) l.length cap := by
      rcases h.2 with ⟨h', h0⟩ | ⟨g', cap', cur, h', hb, hg, hnc, hcm, hcs, htake⟩
      · omega
      · exact ⟨g', cap', h'⟩
    obtain ⟨g, cap, rfl⟩ := hform
    have hgS := hS g rfl
    rcases Nat.lt_or_ge cap (l.length + 1) with hr | hr
    · refine (minsert_grow base g cap xb p k c l w h hbase hn hlt hr hx).mono ?_
      rintro e w' ⟨v', rfl, hO, hE, hb⟩
      exact ⟨v', rfl, hO, Fr.of_ext hE, fun x hx => by rw [hb] at hx; cases hx; exact .inr (Nat.le_refl _)⟩
    · refine (minsert_room base g cap xb p k c l w h hn hlt hr hx (fun e => hxS (e ▸ hgS))).mono ?_
      rintro e w' ⟨rfl, hO, hF⟩
      exact ⟨_, rfl, hO, hF.more fun b _ hb => by simp at hb; subst hb; exact hgS, fun x hx => .inl (hS x hx)⟩
  · obtain rfl : p = l.length := by omega
    rw [List.take_length, List.drop_length]
    exact minsert_end base xb k c v l w h hbase hn hx S hS
end Go.Proofs.Ytnneicdphlidhaa
