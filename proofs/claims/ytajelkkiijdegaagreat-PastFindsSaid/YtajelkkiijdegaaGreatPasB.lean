/-
  A helper of ours: no claim of its own. Layer 14 (past): where an event stands, by the code.
-/
import Derived.Test.YtajelkkiijdegaaGreatPasD
set_option linter.unusedVariables false
set_option linter.unusedSimpArgs false
namespace Go.Proofs.YtajelkkiijdegaaGreat
open Go.RowKit
attribute [local go_sem] GW.cell GW.frozen In.eq_true In.le_true In.ne In.ne' In.ne_add In.ne_add' In.lt_add Upto.le_true Upto.le_add Upto.lt_add
def blks (L : List Pb) : List Nat := L.map fun y => y.2.1
/-- A past, where it lies: what it is, its events' pointers in their order, the events. -/
structure Pst (w : World) (base p : Nat) (sv : Value) (c ser : Int) (mb : Nat) (u : Value) (L : List Pb) : Prop where
  ob : Ob w p 93 [sv, .int .i64 c, .int .i64 ser, .map (some mb), u]
  own : w.ownsRow base 103 1 u L.length (tg1 (blks L))
  evs : ∀ y ∈ L, Evb w y
theorem Pst.ext {w w' : World} {base p : Nat} {sv : Value} {c ser : Int} {mb : Nat} {u : Value} {L : List Pb} (h : Pst w base p sv c ser mb u L) (k : Ext w w') : Pst w' base p sv c ser mb u L := ⟨h.ob.ext k, own_ext h.own k, fun y hy => (h.evs y hy).ext k⟩
theorem pcell_later {W w : World} (h : Ext W w) {a : Addr} {v : Value} (hc : W.cell? a = some v) : w.cell? a = some v := (World.cell?_of_block (a := a) (h.block a.block (block_lt_of_cell hc))).trans hc
theorem pst_at {w : World} {base p : Nat} {sv : Value} {c ser : Int} {mb : Nat} {u : Value} {L : List Pb} (h : Pst w base p sv c ser mb u L) {i : Nat} {y : Pb} (hy : L[i]? = some y) : ∃ g cap, u = .slice (some ⟨g, 0, none⟩) L.length cap ∧ g < w.heap.size ∧ w.cell? ⟨g, i, none⟩ = some (pp y.2.1) := by
  have hi := (List.getElem?_eq_some_iff.1 hy).1
  rcases h.own.2 with ⟨h', h0⟩ | ⟨g, cap, cur, rfl, hb, hg, hnc, hcm, hcs, htake⟩
  · omega
  · refine ⟨g, cap, rfl, (World.ownsRow.lt h.own g rfl).2, ?_⟩
    rw [World.ownsRow.cellAt h.own i (by omega)]
    simp [tg1, blks, hy]
section
variable {w : World} {base p : Nat} {sv : Value} {c ser : Int} {mb : Nat} {u : Value} {L : List Pb}
def fAt (q : Pb → Bool) (L : List Pb) (i : Nat) : Bool := match L[i]? with
  | some y => q y
  | none => true
theorem fst_ld {q : Pb → Bool} {r : Nat} (hd : Down (fun y => !q y) L) (h : Fst (fAt q L) L.length r) : r = ldN (fun y => !q y) L := by
  obtain ⟨h1, h2, h3⟩ := h
  refine (ld_is hd h1 (fun i y hy hi => ?_) (fun i y hy hi => ?_)).symm
  · have := h2 i hi; unfold fAt at this; rw [hy] at this; simp only at this ⊢; rw [this]; rfl
  · have := h3 i hi (List.getElem?_eq_some_iff.1 hy).1; unfold fAt at this; rw [hy] at this; simp only at this ⊢; rw [this]; rfl
set_option maxHeartbeats 2000000 in
set_option maxRecDepth 100000 in
theorem pah1_c (gh : FuncId) (lbh : Array Value) (q : Pb → Bool) (be bh : Nat) (eg : ∀ args w, (callFunc gh args).run Tryz.prog w = .ok (.enter gh args) w) (w : World) (hP : Pst w base p sv c ser mb u L) (hE : Ob w be 205 [.pointer (some ⟨p, 4, none⟩)]) (hH : Ob w bh 170 [.func (.func gh) #[] lbh])
    (hh : ∀ w', Ext w w' → ∀ y ∈ L, Calls Tryz.prog gh (#[pp y.2.1] ++ lbh) w' fun e w2 => e = .returned (.bool (q y)) ∧ Ext w' w2) (i : Nat) (hi : i < L.length) (hL : L.length ≤ 1048576) :
    Calls Tryz.prog 199 #[.int .i64 i, .pointer (some ⟨bh, 0, none⟩), .pointer (some ⟨be, 0, none⟩)] w fun e w' => e = .returned (.bool (fAt q L i)) ∧ Ext w w' := by
  obtain ⟨y, hy⟩ : ∃ y, L[i]? = some y := ⟨_, List.getElem?_eq_getElem hi⟩
  obtain ⟨g, cap, rfl, hg, cg⟩ := pst_at hP hy
  have c4 := hP.ob.cell 4 rfl
  have e0 := hE.cell 0 rfl
  have h0 := hH.cell 0 rfl
  haveI : In p w := ⟨hP.ob.lt⟩
  haveI : In be w := ⟨hE.lt⟩
  haveI : In bh w := ⟨hH.lt⟩
  haveI : In g w := ⟨hg⟩
  have hf : fAt q L i = q y := by unfold fAt; rw [hy]
  rw [hf]
  have hcl := hide (fun w' (hX : Ext w w') => hh w' hX y (List.mem_of_getElem? hy))
  have hiI : (i : Int) < L.length := by omega
  generalize q y = Q at *
  clear hh hP hE hH hf hy
  go_enter Tryz.func199, Tryz.ntmps199
  go_wp2_with fail
  refine wp_region_gw_tail 8 (by kernel_rfl) (by kernel_rfl) ?_
  simp only [List.take_succ_cons, List.take_zero, List.drop_succ_cons, List.drop_zero]
  repeat (go_big_quiet_step (fail))
  refine wpQuiet_nil ?_
  intro g1
  go_wp2_with fail
  refine (hcl.out _ g1.grown).mono ?_
  rintro ee w2 ⟨rfl, hX2⟩
  replace hX2 := hide hX2
  go_wp2_with fail
  go_returns
  exact ⟨rfl, g1.grown.trans hX2.out⟩
set_option maxHeartbeats 2000000 in
set_option maxRecDepth 100000 in
theorem pahead_c (gh : FuncId) (lbh : Array Value) (q : Pb → Bool) (eg : ∀ args w, (callFunc gh args).run Tryz.prog w = .ok (.enter gh args) w) (hd : Down (fun y => !q y) L) (w : World) (hP : Pst w base p sv c ser mb u L)
    (hh : ∀ w', Ext w w' → ∀ y ∈ L, Calls Tryz.prog gh (#[pp y.2.1] ++ lbh) w' fun e w2 => e = .returned (.bool (q y)) ∧ Ext w' w2) (hL : L.length ≤ 1048576) :
    Calls Tryz.prog 145 #[.pointer (some ⟨p, 4, none⟩), .func (.func gh) #[] lbh] w fun e w' => e = .returned (.int .i64 (ldN (fun y => !q y) L)) ∧ Ext w w' := by
  obtain ⟨W1, hW1⟩ : ∃ W1, W1 = (w.alloc (.cells #[.pointer (some ⟨p, 4, none⟩)] 205)).alloc (.cells #[.func (.func gh) #[] lbh] 170) := ⟨_, rfl⟩
  have hX1 : Ext w W1 := by rw [hW1]; exact ((Ext.refl w).alloc _).alloc _
  have hE : Ob W1 w.heap.size 205 [.pointer (some ⟨p, 4, none⟩)] := by rw [hW1]; exact (Ob.new w _ [_]).alloc _
  have hH : Ob W1 (w.heap.size + 1) 170 [.func (.func gh) #[] lbh] := by rw [hW1]; have := Ob.new (w.alloc (.cells #[.pointer (some ⟨p, 4, none⟩)] 205)) 170 [.func (.func gh) #[] lbh]; rwa [World.size_alloc] at this
  have hP1 := hP.ext hX1
  have hdn : ∀ i j, i ≤ j → j < L.length → fAt q L i = true → fAt q L j = true := fun i j hij hj h1 => by
    obtain ⟨y, hy⟩ : ∃ y, L[j]? = some y := ⟨_, List.getElem?_eq_getElem hj⟩
    obtain ⟨x, hx⟩ : ∃ x, L[i]? = some x := ⟨_, List.getElem?_eq_getElem (by omega)⟩
    unfold fAt at h1 ⊢
    rw [hx] at h1
    rw [hy]
    simp only at h1 ⊢
    by_cases e : i = j
    · subst e; rw [hx] at hy; cases hy; exact h1
    · obtain ⟨hi', ex⟩ := List.getElem?_eq_some_iff.1 hx
      obtain ⟨hj', ey⟩ := List.getElem?_eq_some_iff.1 hy
      have := List.pairwise_iff_getElem.1 hd i j hi' hj' (by omega)
      rw [ex, ey] at this
      cases h2 : q y
      · simp [h2, h1] at this
      · rfl
  have hs := hide (search_c 199 #[.pointer (some ⟨w.heap.size + 1, 0, none⟩), .pointer (some ⟨w.heap.size, 0, none⟩)] L.length hL (fAt q L) hdn W1 (enters_of Tryz.func199 (by kernel_rfl) rfl)
    (fun w' hX i hi => pah1_c gh lbh q w.heap.size (w.heap.size + 1) eg w' (hP1.ext hX) (hE.ext hX) (hH.ext hX) (fun w2 hX2 y hy => hh w2 (hX1.trans (hX.trans hX2)) y hy) i hi hL))
  have c4 := hP.ob.cell 4 rfl
  haveI : In p w := ⟨hP.ob.lt⟩
  obtain ⟨A, cap, rfl⟩ := own_form hP.own
  have hX1h := hide hX1
  replace hW1 := hide hW1
  clear hP hP1 hE hH hh hdn hX1
  go_enter Tryz.func145, Tryz.ntmps145
  go_wp2_with fail
  rw [← hW1.out]
  refine hs.out.mono ?_
  rintro ee w2 ⟨r, rfl, hr, hX2⟩
  replace hr := hide (fst_ld hd hr)
  replace hX2 := hide hX2
  go_wp2_with fail
  go_returns
  exact ⟨by rw [hr.out]; rfl, hX1h.out.trans hX2.out⟩
set_option maxHeartbeats 1000000 in
theorem ppl1_c (x y : Pb) (bx : Nat) (w : World) (hx : Evb w x) (hy : Evb w y) (hb : Ob w bx 103 [pp x.2.1]) :
    Calls Tryz.prog 202 #[pp y.2.1, .pointer (some ⟨bx, 0, none⟩)] w fun e w' => e = .returned (.bool (!befB y x)) ∧ Ext w w' := by
  have b0 := hb.cell 0 rfl
  have hc := hide (byEnd_c y x w hy hx)
  have hn := byP_neg (p := y) (q := x)
  clear hx hy hb
  generalize byP y x = R at *
  cases hB : befB y x
  · have h0 : 0 ≤ R := by rw [hB] at hn; rcases Int.lt_or_le R 0 with h | h; exact absurd (hn.1 h) (by decide); exact h
    have hd : decide (0 ≤ R) = true := decide_eq_true h0
    clear hn hB
    go_enter Tryz.func202, Tryz.ntmps202
    go_wp2_with (go_at_call 203; (with_reducible refine seq_gw hc.out ?_); intro g)
    go_returns
    exact ⟨by first | rfl | simp [h0], g.grown⟩
  · have h0 : ¬ 0 ≤ R := by have := hn.2 hB; omega
    have hd : decide (0 ≤ R) = false := decide_eq_false h0
    clear hn hB
    go_enter Tryz.func202, Tryz.ntmps202
    go_wp2_with (go_at_call 203; (with_reducible refine seq_gw hc.out ?_); intro g)
    go_returns
    exact ⟨by first | rfl | simp [h0], g.grown⟩
set_option maxHeartbeats 2000000 in
theorem pplace_c (x : Pb) (w : World) (hP : Pst w base p sv c ser mb u L) (hs : Srt L) (hx : Evb w x) (hL : L.length ≤ 1048576) :
    Calls Tryz.prog 152 #[.pointer (some ⟨p, 4, none⟩), pp x.2.1] w fun e w' => e = .returned (.int .i64 (plN L x)) ∧ Ext w w' := by
  obtain ⟨W1, hW1⟩ : ∃ W1, W1 = w.alloc (.cells #[pp x.2.1] 103) := ⟨_, rfl⟩
  have hX1 : Ext w W1 := by rw [hW1]; exact (Ext.refl w).alloc _
  have hB : Ob W1 w.heap.size 103 [pp x.2.1] := by rw [hW1]; exact Ob.new w _ [_]
  have hsd : Down (fun y => !(!befB y x)) L := by have := srt_down hs x; simpa only [Bool.not_not] using this
  have ha := hide (pahead_c 202 #[.pointer (some ⟨w.heap.size, 0, none⟩)] (fun y => !befB y x) (enters_of Tryz.func202 (by kernel_rfl) rfl) hsd W1 (hP.ext hX1)
    (fun w' hX y hy => ppl1_c x y w.heap.size w' ((hx.ext hX1).ext hX) ((hP.evs y hy).ext (hX1.trans hX)) (hB.ext hX)) hL)
  rw [show ldN (fun y => !(!befB y x)) L = plN L x by unfold plN; simp only [Bool.not_not]] at ha
  have hX1h := hide hX1
  replace hW1 := hide hW1
  clear hP hB hX1 hsd
  generalize plN L x = N at *
  go_enter Tryz.func152, Tryz.ntmps152
  go_wp2_with fail
  rw [← hW1.out]
  refine seq_gw ha.out ?_
  intro g
  go_wp2_with fail
  go_returns
  exact ⟨rfl, hX1h.out.trans g.grown⟩
theorem pcut1_c (t : Int) (y : Pb) (bt : Nat) (w : World) (hy : Evb w y) (hb : Ob w bt 3 [.int .i64 t]) :
    Calls Tryz.prog 146 #[pp y.2.1, .pointer (some ⟨bt, 0, none⟩)] w fun e w' => e = .returned (.bool (decide (t < pTo y))) ∧ Ext w w' := by
  have b0 := hb.cell 0 rfl
  have a4 := Ob.cell hy 4 rfl
  haveI : In y.2.1 w := ⟨Ob.lt hy⟩
  haveI : In bt w := ⟨hb.lt⟩
  clear hy hb
  go_enter Tryz.func146, Tryz.ntmps146
  go_wp2_with fail
  refine wp_region_gw (by kernel_rfl) (by kernel_rfl) ?_
  repeat (go_big_quiet_step (fail))
  refine wpQuiet_nil ?_
  intro g
  go_wp2_with fail
  go_returns
  exact ⟨by first | rfl | simp, g.grown⟩
end
end Go.Proofs.YtajelkkiijdegaaGreat
