/-
  A helper of ours: no claim of its own. Layer 14 (past): a past in memory, whole; the clock moved on.
-/
import Derived.Test.YtkfdkjjocdbolaaPasD
import Derived.Test.YtkfdkjjocdbolaaReg5
import Derived.Lib.LazyBuf
import Derived.Test.YtkfdkjjocdbolaaFolO
import Derived.Test.YtkfdkjjocdbolaaPasG
set_option linter.unusedVariables false
set_option linter.unusedSimpArgs false
namespace Go.Proofs.Ytkfdkjjocdbolaa
open Go.RowKit
attribute [local go_sem] GW.cell GW.frozen In.eq_true In.le_true In.ne In.ne' In.ne_add In.ne_add' In.lt_add Upto.le_true Upto.le_add Upto.lt_add
def blks (L : List Pb) : List Nat := L.map fun y => y.2.1
/-- A past, where it lies: what it is, its events' pointers in their order, the events. -/
structure Pst (w : World) (base p : Nat) (sv : Value) (c ser : Int) (mb : Nat) (u : Value) (L : List Pb) : Prop where
  ob : Ob w p 65 [sv, .int .i64 c, .int .i64 ser, .map (some mb), u]
  own : w.ownsRow base 90 1 u L.length (tg1 (blks L))
  evs : ∀ y ∈ L, Evb w y
theorem Pst.ext {w w' : World} {base p : Nat} {sv : Value} {c ser : Int} {mb : Nat} {u : Value} {L : List Pb} (h : Pst w base p sv c ser mb u L) (k : Ext w w') : Pst w' base p sv c ser mb u L := ⟨h.ob.ext k, own_ext h.own k, fun y hy => (h.evs y hy).ext k⟩
theorem pcell_later {W w : World} (h : Ext W w) {a : Addr} {v : Value} (hc : W.cell? a = some v) : w.cell? a = some v := (World.cell?_of_block (a := a) (h.block a.block (block_lt_of_cell hc))).trans hc
theorem pst_at {w : World} {base p : Nat} {sv : Value} {c ser : Int} {mb : Nat} {u : Value} {L : List Pb} (h : Pst w base p sv c ser mb u L) {i : Nat} {y : Pb} (hy : L[i]? = some y) : ∃ g cap, u = .slice (some ⟨g, 0, none⟩) L.length cap ∧ g < w.heap.size ∧ w.cell? ⟨g, i, none⟩ = some (pp y.2.1) := by
  have hi := (List.getElem?_eq_some_iff.1 hy).1
  rcases h.own.2 with ⟨h', h0⟩ | ⟨g, cap, cur, rfl, hb, hg, hnc, hcm, hcs, htake⟩
  · omega
  · refine ⟨g, cap, rfl, (World.ownsRow.lt h.own g rfl).2, ?_⟩
    rw [World.ownsRow.cellAt h.own i (by omega)]
    simp [tg1, blks, hy]
section
variable {w : World} {base p : Nat} {sv : Value} {c ser : Int} {mb : Nat} {u : Value} {L : List Pb}
def fAt (q : Pb → Bool) (L : List Pb) (i : Nat) : Bool := match L[i]? with
  | some y => q y
  | none => true
theorem fst_ld {q : Pb → Bool} {r : Nat} (hd : Down (fun y => !q y) L) (h : Fst (fAt q L) L.length r) : r = ldN (fun y => !q y) L := by
  obtain ⟨h1, h2, h3⟩ := h
  refine (ld_is hd h1 (fun i y hy hi => ?_) (fun i y hy hi => ?_)).symm
  · have := h2 i hi; unfold fAt at this; rw [hy] at this; simp only at this ⊢; rw [this]; rfl
  · have := h3 i hi (List.getElem?_eq_some_iff.1 hy).1; unfold fAt at this; rw [hy] at this; simp only at this ⊢; rw [this]; rfl
set_option maxHeartbeats 2000000 in
set_option maxRecDepth 100000 in
theorem pah1_c (gh : FuncId) (lbh : Array Value) (q : Pb → Bool) (be bh : Nat) (eg : ∀ args w, (callFunc gh args).run Try.prog w = .ok (.enter gh args) w) (w : World) (hP : Pst w base p sv c ser mb u L) (hE : Ob w be 114 [.pointer (some ⟨p, 4, none⟩)]) (hH : Ob w bh 116 [.func (.func gh) #[] lbh])
    (hh : ∀ w', Ext w w' → ∀ y ∈ L, Calls Try.prog gh (#[pp y.2.1] ++ lbh) w' fun e w2 => e = .returned (.bool (q y)) ∧ Ext w' w2) (i : Nat) (hi : i < L.length) (hL : L.length ≤ 1048576) :
    Calls Try.prog 83 #[.int .i64 i, .pointer (some ⟨bh, 0, none⟩), .pointer (some ⟨be, 0, none⟩)] w fun e w' => e = .returned (.bool (fAt q L i)) ∧ Ext w w' := by
  obtain ⟨y, hy⟩ : ∃ y, L[i]? = some y := ⟨_, List.getElem?_eq_getElem hi⟩
  obtain ⟨g, cap, rfl, hg, cg⟩ := pst_at hP hy
  have c4 := hP.ob.cell 4 rfl
  have e0 := hE.cell 0 rfl
  have h0 := hH.cell 0 rfl
  haveI : In p w := ⟨hP.ob.lt⟩
  haveI : In be w := ⟨hE.lt⟩
  haveI : In bh w := ⟨hH.lt⟩
  haveI : In g w := ⟨hg⟩
  have hf : fAt q L i = q y := by unfold fAt; rw [hy]
  rw [hf]
  have hcl := hide (fun w' (hX : Ext w w') => hh w' hX y (List.mem_of_getElem? hy))
  have hiI : (i : Int) < L.length := by omega
  generalize q y = Q at *
  clear hh hP hE hH hf hy
  go_enter Try.func83, Try.ntmps83
  go_wp2_with fail
  refine wp_region_gw_tail 8 (by kernel_rfl) (by kernel_rfl) ?_
  simp only [List.take_succ_cons, List.take_zero, List.drop_succ_cons, List.drop_zero]
  repeat (go_big_quiet_step (fail))
  refine wpQuiet_nil ?_
  intro g1
  go_wp2_with fail
  refine (hcl.out _ g1.grown).mono ?_
  rintro ee w2 ⟨rfl, hX2⟩
  replace hX2 := hide hX2
  go_wp2_with fail
  go_returns
  exact ⟨rfl, g1.grown.trans hX2.out⟩
set_option maxHeartbeats 2000000 in
set_option maxRecDepth 100000 in
theorem pahead_c (gh : FuncId) (lbh : Array Value) (q : Pb → Bool) (eg : ∀ args w, (callFunc gh args).run Try.prog w = .ok (.enter gh args) w) (hd : Down (fun y => !q y) L) (w : World) (hP : Pst w base p sv c ser mb u L)
    (hh : ∀ w', Ext w w' → ∀ y ∈ L, Calls Try.prog gh (#[pp y.2.1] ++ lbh) w' fun e w2 => e = .returned (.bool (q y)) ∧ Ext w' w2) (hL : L.length ≤ 1048576) :
    Calls Try.prog 65 #[.pointer (some ⟨p, 4, none⟩), .func (.func gh) #[] lbh] w fun e w' => e = .returned (.int .i64 (ldN (fun y => !q y) L)) ∧ Ext w w' := by
  obtain ⟨W1, hW1⟩ : ∃ W1, W1 = (w.alloc (.cells #[.pointer (some ⟨p, 4, none⟩)] 114)).alloc (.cells #[.func (.func gh) #[] lbh] 116) := ⟨_, rfl⟩
  have hX1 : Ext w W1 := by rw [hW1]; exact ((Ext.refl w).alloc _).alloc _
  have hE : Ob W1 w.heap.size 114 [.pointer (some ⟨p, 4, none⟩)] := by rw [hW1]; exact (Ob.new w _ [_]).alloc _
  have hH : Ob W1 (w.heap.size + 1) 116 [.func (.func gh) #[] lbh] := by rw [hW1]; have := Ob.new (w.alloc (.cells #[.pointer (some ⟨p, 4, none⟩)] 114)) 116 [.func (.func gh) #[] lbh]; rwa [World.size_alloc] at this
  have hP1 := hP.ext hX1
  have hdn : ∀ i j, i ≤ j → j < L.length → fAt q L i = true → fAt q L j = true := fun i j hij hj h1 => by
    obtain ⟨y, hy⟩ : ∃ y, L[j]? = some y := ⟨_, List.getElem?_eq_getElem hj⟩
    obtain ⟨x, hx⟩ : ∃ x, L[i]? = some x := ⟨_, List.getElem?_eq_getElem (by omega)⟩
    unfold fAt at h1 ⊢
    rw [hx] at h1
    rw [hy]
    simp only at h1 ⊢
    by_cases e : i = j
    · subst e; rw [hx] at hy; cases hy; exact h1
    · obtain ⟨hi', ex⟩ := List.getElem?_eq_some_iff.1 hx
      obtain ⟨hj', ey⟩ := List.getElem?_eq_some_iff.1 hy
      have := List.pairwise_iff_getElem.1 hd i j hi' hj' (by omega)
      rw [ex, ey] at this
      cases h2 : q y
      · simp [h2, h1] at this
      · rfl
  have hs := hide (search_c 83 #[.pointer (some ⟨w.heap.size + 1, 0, none⟩), .pointer (some ⟨w.heap.size, 0, none⟩)] L.length hL (fAt q L) hdn W1 (enters_of Try.func83 (by kernel_rfl) rfl)
    (fun w' hX i hi => pah1_c gh lbh q w.heap.size (w.heap.size + 1) eg w' (hP1.ext hX) (hE.ext hX) (hH.ext hX) (fun w2 hX2 y hy => hh w2 (hX1.trans (hX.trans hX2)) y hy) i hi hL))
  have c4 := hP.ob.cell 4 rfl
  haveI : In p w := ⟨hP.ob.lt⟩
  obtain ⟨A, cap, rfl⟩ := own_form hP.own
  have hX1h := hide hX1
  replace hW1 := hide hW1
  clear hP hP1 hE hH hh hdn hX1
  go_enter Try.func65, Try.ntmps65
  go_wp2_with fail
  rw [← hW1.out]
  refine hs.out.mono ?_
  rintro ee w2 ⟨r, rfl, hr, hX2⟩
  replace hr := hide (fst_ld hd hr)
  replace hX2 := hide hX2
  go_wp2_with fail
  go_returns
  exact ⟨by rw [hr.out]; rfl, hX1h.out.trans hX2.out⟩
set_option maxHeartbeats 1000000 in
theorem ppl1_c (x y : Pb) (bx : Nat) (w : World) (hx : Evb w x) (hy : Evb w y) (hb : Ob w bx 90 [pp x.2.1]) :
    Calls Try.prog 84 #[pp y.2.1, .pointer (some ⟨bx, 0, none⟩)] w fun e w' => e = .returned (.bool (!befB y x)) ∧ Ext w w' := by
  have b0 := hb.cell 0 rfl
  have hc := hide (byEnd_c y x w hy hx)
  have hn := byP_neg (p := y) (q := x)
  clear hx hy hb
  generalize byP y x = R at *
  cases hB : befB y x
  · have h0 : 0 ≤ R := by rw [hB] at hn; rcases Int.lt_or_le R 0 with h | h; exact absurd (hn.1 h) (by decide); exact h
    have hd : decide (0 ≤ R) = true := decide_eq_true h0
    clear hn hB
    go_enter Try.func84, Try.ntmps84
    go_wp2_with (go_at_call 85; (with_reducible refine seq_gw hc.out ?_); intro g)
    go_returns
    exact ⟨by first | rfl | simp [h0], g.grown⟩
  · have h0 : ¬ 0 ≤ R := by have := hn.2 hB; omega
    have hd : decide (0 ≤ R) = false := decide_eq_false h0
    clear hn hB
    go_enter Try.func84, Try.ntmps84
    go_wp2_with (go_at_call 85; (with_reducible refine seq_gw hc.out ?_); intro g)
    go_returns
    exact ⟨by first | rfl | simp [h0], g.grown⟩
set_option maxHeartbeats 2000000 in
theorem pplace_c (x : Pb) (w : World) (hP : Pst w base p sv c ser mb u L) (hs : Srt L) (hx : Evb w x) (hL : L.length ≤ 1048576) :
    Calls Try.prog 69 #[.pointer (some ⟨p, 4, none⟩), pp x.2.1] w fun e w' => e = .returned (.int .i64 (plN L x)) ∧ Ext w w' := by
  obtain ⟨W1, hW1⟩ : ∃ W1, W1 = w.alloc (.cells #[pp x.2.1] 90) := ⟨_, rfl⟩
  have hX1 : Ext w W1 := by rw [hW1]; exact (Ext.refl w).alloc _
  have hB : Ob W1 w.heap.size 90 [pp x.2.1] := by rw [hW1]; exact Ob.new w _ [_]
  have hsd : Down (fun y => !(!befB y x)) L := by have := srt_down hs x; simpa only [Bool.not_not] using this
  have ha := hide (pahead_c 84 #[.pointer (some ⟨w.heap.size, 0, none⟩)] (fun y => !befB y x) (enters_of Try.func84 (by kernel_rfl) rfl) hsd W1 (hP.ext hX1)
    (fun w' hX y hy => ppl1_c x y w.heap.size w' ((hx.ext hX1).ext hX) ((hP.evs y hy).ext (hX1.trans hX)) (hB.ext hX)) hL)
  rw [show ldN (fun y => !(!befB y x)) L = plN L x by unfold plN; simp only [Bool.not_not]] at ha
  have hX1h := hide hX1
  replace hW1 := hide hW1
  clear hP hB hX1 hsd
  generalize plN L x = N at *
  go_enter Try.func69, Try.ntmps69
  go_wp2_with fail
  rw [← hW1.out]
  refine seq_gw ha.out ?_
  intro g
  go_wp2_with fail
  go_returns
  exact ⟨rfl, hX1h.out.trans g.grown⟩
theorem pcut1_c (t : Int) (y : Pb) (bt : Nat) (w : World) (hy : Evb w y) (hb : Ob w bt 3 [.int .i64 t]) :
    Calls Try.prog 66 #[pp y.2.1, .pointer (some ⟨bt, 0, none⟩)] w fun e w' => e = .returned (.bool (decide (t < pTo y))) ∧ Ext w w' := by
  have b0 := hb.cell 0 rfl
  have a4 := Ob.cell hy 4 rfl
  haveI : In y.2.1 w := ⟨Ob.lt hy⟩
  haveI : In bt w := ⟨hb.lt⟩
  clear hy hb
  go_enter Try.func66, Try.ntmps66
  go_wp2_with fail
  refine wp_region_gw (by kernel_rfl) (by kernel_rfl) ?_
  repeat (go_big_quiet_step (fail))
  refine wpQuiet_nil ?_
  intro g
  go_wp2_with fail
  go_returns
  exact ⟨by first | rfl | simp, g.grown⟩
end
end Go.Proofs.Ytkfdkjjocdbolaa
set_option linter.unusedVariables false
set_option linter.unusedSimpArgs false
namespace Go.Proofs.Ytkfdkjjocdbolaa
open Go.RowKit
attribute [local go_sem] GW.cell GW.frozen In.eq_true In.le_true In.ne In.ne' In.ne_add In.ne_add' In.lt_add Upto.le_true Upto.le_add Upto.lt_add
theorem blks_app (a b : List Pb) : blks (a ++ b) = blks a ++ blks b := by simp [blks]
theorem blks_take (a : List Pb) (k : Nat) : blks (a.take k) = (blks a).take k := by simp [blks, List.map_take]
theorem blks_drop (a : List Pb) (k : Nat) : blks (a.drop k) = (blks a).drop k := by simp [blks, List.map_drop]
theorem blks_len (a : List Pb) : (blks a).length = a.length := by simp [blks]
theorem powns_fr {w w' : World} {S : List Nat} {B e size n : Nat} {v : Value} {xs : List Value} (h : w.ownsRow B e size v n xs) (k : Fr S w w') (hne : ∀ r, v.ownBlock = some r → r ∉ S) : w'.ownsRow B e size v n xs :=
  ⟨h.1, h.2.imp id fun ⟨g, cap, cur, e, hb, hg, rest⟩ => ⟨g, cap, cur, e, hb, (k.block g (lt_of_block hg) (hne g (by rw [e]; rfl))).trans hg, rest⟩⟩
theorem pmown_far {w : World} {B e size n : Nat} {v : Value} {xs : List Value} {b : Nat} (h : w.ownsRow B e size v n xs) (o : Nat) (u : Value) (hne : v.ownBlock ≠ some b) : (w.setCell ⟨b, o, none⟩ u).ownsRow B e size v n xs :=
  h.kept (World.grownBy.mk (row := some b) rfl rfl rfl (by simp) fun i hi hn => Below.heap_setCell w ⟨b, o, none⟩ u i (fun e => hn (by rw [e]))) (.inr hne)
set_option maxHeartbeats 1000000 in
set_option maxRecDepth 100000 in
theorem pclone_c (l : List Nat) (v : Value) (w : World) (h : Sl w [] 1 v l.length (tg1 l)) (hz : l.length ≤ 1048576) : Calls Try.prog 67 #[v] w fun e w' => ∃ v', e = .returned v' ∧ w'.ownsRow w.heap.size 90 1 v' l.length (tg1 l) ∧ Ext w w' := by
  have hv := hide h
  obtain ⟨A, cap, rfl, h1, h2, h3, h4⟩ := h
  have hq := fun w => Lib.run_eql_slice_nil (P := Try.prog) w 61 90 A l.length cap 0 0 Try.underlying61
  cases A with
  | none =>
    have hl0 : l = [] := by
      rcases h4 with h4 | ⟨b, o, hb, _⟩
      · have := congrArg List.length h4; rw [tg1_length] at this; exact List.eq_nil_of_length_eq_zero (by simpa using this)
      · cases hb
    subst hl0
    clear hv hq h3 h4
    have hq0 := fun w => Lib.run_eql_slice_nil (P := Try.prog) w 61 90 none 0 cap 0 0 Try.underlying61
    show Calls Try.prog 67 #[.slice none 0 cap] w fun e w' => ∃ v', e = .returned v' ∧ w'.ownsRow w.heap.size 90 1 v' 0 [] ∧ Ext w w'
    go_enter Try.func67, Try.ntmps67
    go_wp2_with fail
    go_returns
    exact ⟨_, rfl, World.ownsRow_nil _ _ _ _, Ext.refl w⟩
  | some a =>
    have hlit := hide (World.ownsRow_lit (base := w.heap.size) (e := 90) (size := 1) w #[] 0 (Nat.le_refl _) (by decide) rfl)
    clear h3 h4
    go_enter Try.func67, Try.ntmps67
    go_wp2_with (at_builtin; (refine wpl_app tPev rfl (.tmp 5) (.tmp 6) rfl rfl hlit.out rfl (src_sl Try.underlying61 (Sl.ext hv.out ((Ext.refl w).alloc _)) (tg1_one _) (by omega)) (by unfold maxLen; omega) (by omega) (by simp) ?_; intro v1 w1 ho1 hg1 _))
    go_returns
    exact ⟨_, rfl, by simpa using ho1, ext_grown ((Ext.refl w).alloc _) hg1 (fun k hk => (hlit.out.lt k hk).1)⟩
theorem pdel0_c (A : Option Addr) (n cap : Nat) (hc : n ≤ cap) (h : A = none → n = 0 ∧ cap = 0) (w : World) : Calls Try.prog 68 #[.slice A n cap, .int .i64 0, .int .i64 0] w fun e w' => e = .returned (.slice A n cap) ∧ Ext w w' := by
  have hcI : (n : Int) ≤ cap := by omega
  cases A with
  | none =>
    obtain ⟨rfl, rfl⟩ := h rfl
    go_enter Try.func68, Try.ntmps68
    go_wp2_with fail
    go_returns
    exact ⟨rfl, Ext.refl w⟩
  | some a =>
    clear h
    go_enter Try.func68, Try.ntmps68
    go_wp2_with fail
    go_returns
    exact ⟨rfl, Ext.refl w⟩
section
variable {w : World} {base p : Nat} {sv : Value} {c ser : Int} {mb : Nat} {u : Value} {L : List Pb}
/-- The blocks that are a past's own and that it writes. -/
abbrev wrt (p : Nat) (u : Value) : List Nat := p :: u.ownBlock.toList
theorem evb_fr {w w' : World} {S : List Nat} {y : Pb} (h : Evb w y) (hP : Pst w base p sv c ser mb u L) (k : Fr S w w') (hS : ∀ b, b ∈ S → b ∈ wrt p u) : Evb w' y := by
  refine Ob.fr h k fun hm => ?_
  rcases List.mem_cons.1 (hS _ hm) with e | e
  · exact Ob.ne h hP.ob (by decide) e
  · exact Ob.not_own h hP.own (by decide) (by simpa using e)
theorem pst_lt (hP : Pst w base p sv c ser mb u L) : ∀ b, b ∈ wrt p u → b < w.heap.size := fun b hb => by
  rcases List.mem_cons.1 hb with rfl | hb
  · exact hP.ob.lt
  · exact (hP.own.lt b (by simpa using hb)).2
theorem p_not_own (hP : Pst w base p sv c ser mb u L) : u.ownBlock ≠ some p := Ob.not_own hP.ob hP.own (by decide)
set_option maxHeartbeats 4000000 in
set_option maxRecDepth 100000 in
theorem penter_c (x : Pb) (w : World) (hP : Pst w base p sv c ser mb u L) (hs : Srt L) (hx : Evb w x) (hL : L.length ≤ 8192) (hb : base ≤ w.heap.size) :
    Calls Try.prog 50 #[.pointer (some ⟨p, 4, none⟩), pp x.2.1] w fun e w' => e = .returned (.tuple #[]) ∧ ∃ u', Pst w' base p sv c ser mb u' (insP L x) ∧ Fr (wrt p u) w w' ∧ ∀ b, u'.ownBlock = some b → b ∈ wrt p u ∨ w.heap.size ≤ b := by
  have hpl := hide (fun w' (hX : Ext w w') => pplace_c x w' (hP.ext hX) hs (hx.ext hX) (by omega))
  have hle := ld_le (fun y => befB y x) L
  have hnl : plN L x = ldN (fun y => befB y x) L := rfl
  rw [← hnl] at hle
  have hins : tg1 (blks (insP L x)) = tg1 ((blks L).take (plN L x) ++ x.2.1 :: (blks L).drop (plN L x)) := by
    unfold insP
    rw [blks_app, blks_take, ← blks_drop]
    rfl
  have hlen : (insP L x).length = L.length + 1 := by
    unfold insP
    rw [List.length_append, List.length_cons, List.length_take, List.length_drop]; omega
  have c4 := hP.ob.cell 4 rfl
  have f4 := hP.ob.free 4
  haveI : In p w := ⟨hP.ob.lt⟩
  have hpn := p_not_own hP
  have hPh := hide hP
  have hxh := hide hx
  obtain ⟨A, cap, hu⟩ := own_form hP.own
  clear hP hnl hx
  have hown := hPh.out.own
  have hins2 := hide (fun (w1 : World) (xb : Nat) (hX : Ext w w1) (hxb : Ob w1 xb 90 [pp x.2.1]) (hxw : w.heap.size ≤ xb) => pminsert_c base xb (plN L x) x.2.1 u (blks L) w1 (by rw [blks_len]; exact own_ext hown hX) (by have := hX.size; omega) (by rw [blks_len]; omega) (by rw [blks_len]; omega) hxb u.ownBlock.toList (fun b hb => by simp [hb]) (fun hm => by
    have := (hown.lt xb (by simpa using hm)).2
    omega))
  rw [← hins] at hins2
  rw [blks_len] at hins2
  have hfin : Hid (∀ w1 u', Ext w w1 → ∀ w2, Fr u.ownBlock.toList w1 w2 → w2.ownsRow base 90 1 u' (L.length + 1) (tg1 (blks (insP L x))) → (∀ b, u'.ownBlock = some b → b ∈ u.ownBlock.toList ∨ w1.heap.size ≤ b) →
      Pst (w2.setCell ⟨p, 4, none⟩ u') base p sv c ser mb u' (insP L x) ∧ Fr (wrt p u) w (w2.setCell ⟨p, 4, none⟩ u') ∧ ∀ b, u'.ownBlock = some b → b ∈ wrt p u ∨ w.heap.size ≤ b) := by
    intro w1 u' hX w2 hF ho hk
    have hF1 : Fr u.ownBlock.toList w w2 := (Fr.of_ext hX).trans hF
    have hF2 : Fr (wrt p u) w w2 := hF1.more fun b _ hb => List.mem_cons_of_mem _ hb
    have hob2 : Ob w2 p 65 [sv, .int .i64 c, .int .i64 ser, .map (some mb), u] := hPh.out.ob.fr hF1 (by simpa using hpn)
    have hF3 : Fr (wrt p u) w (w2.setCell ⟨p, 4, none⟩ u') := hF2.setCell _ _ (.inl (by simp))
    refine ⟨⟨hob2.set 4 _, ?_, fun y hy => ?_⟩, hF3, fun b hb => ?_⟩
    · rw [hlen]
      exact pmown_far ho 4 u' (Ob.not_own hob2 ho (by decide))
    · rcases mem_insP.1 hy with rfl | hy
      · exact evb_fr hxh.out hPh.out hF3 fun _ h => h
      · exact evb_fr (hPh.out.evs y hy) hPh.out hF3 fun _ h => h
    · rcases hk b hb with h | h
      · exact .inl (List.mem_cons_of_mem _ h)
      · exact .inr (Nat.le_trans hX.size h)
  clear hins hown hpn hlen hs
  generalize plN L x = N at *
  generalize blks (insP L x) = BL at *
  subst hu
  have c4h := hide c4
  obtain ⟨W0, hW0⟩ : ∃ W0, W0 = w := ⟨_, rfl⟩
  have c4h := hide c4
  obtain ⟨W0, hW0⟩ : ∃ W0, W0 = w := ⟨_, rfl⟩
  have c4h := hide c4
  obtain ⟨W0, hW0⟩ : ∃ W0, W0 = w := ⟨_, rfl⟩
  have c4h := hide c4
  obtain ⟨W0, hW0⟩ : ∃ W0, W0 = w := ⟨_, rfl⟩
  go_enter Try.func50, Try.ntmps50
  go_wp2_with fail
  -- REGION
  refine wp_region_loose_tail 10 [(.is ((.pointer (some ⟨p, 4, none⟩)))), (.is ((.pointer (some ⟨p, 4, none⟩)))), (.is ((.pointer (some ⟨p, 4, none⟩)))), (.is ((.pointer (some ⟨p, 4, none⟩)))), (.is ((.slice A L.length cap))), (.is ((.pointer (some ⟨p, 4, none⟩)))), (.is ((pp x.2.1))), (.is ((.int .i64 N))), (.is ((pp x.2.1))), (.st (fun v w => ∃ xb, v = .slice (some ⟨xb, 0, none⟩) 1 1 ∧ W0.heap.size ≤ xb ∧ Ob w xb 90 [pp x.2.1]) (fun v w w' ⟨xb, h1, h2, h3⟩ k => ⟨xb, h1, h2, h3.ext k⟩))] (by kernel_rfl) (by kernel_rfl) (by kernel_rfl) (by kernel_rfl) (by kernel_rfl) (by kernel_rfl) (by kernel_rfl) (by kernel_rfl) (by kernel_rfl) ?_ ?_
  · refine ⟨?_, ?_, ?_, ?_, ?_, ?_, ?_, ?_, ?_, ?_, trivial⟩
    · intro b w' h hE
      have f0 : b.tmps.getD 0 undef = (.pointer (some ⟨p, 4, none⟩)) := hE 0 (of_decide_eq_true (by kernel_rfl))
      exact good_move (wanted_none rfl) rfl f0
    · intro b w' h hE
      have f0 : b.tmps.getD 0 undef = (.pointer (some ⟨p, 4, none⟩)) := hE 0 (of_decide_eq_true (by kernel_rfl))
      exact good_move (wanted_none rfl) rfl f0
    · intro b w' h hE
      have f5 : b.tmps.getD 5 undef = (.pointer (some ⟨p, 4, none⟩)) := h.dep 1 _ 5 (by kernel_rfl) rfl rfl
      exact good_nilCheck (wanted_none rfl) rfl f5 rfl
    · intro b w' h hE
      have f6 : b.tmps.getD 6 undef = (.pointer (some ⟨p, 4, none⟩)) := h.dep 2 _ 6 (by kernel_rfl) rfl rfl
      exact good_field (wanted_none rfl) rfl f6 (by simp [go_sem]) rfl
    · intro b w' h hE
      have f7 : b.tmps.getD 7 undef = (.pointer (some ⟨p, 4, none⟩)) := h.dep 3 _ 7 (by kernel_rfl) rfl rfl
      have c0 := cell_later h.ext c4h.out
      exact good_load (wanted_none rfl) rfl f7 (by simp [go_sem, c0]) rfl
    · intro b w' h hE
      have f0 : b.tmps.getD 0 undef = (.pointer (some ⟨p, 4, none⟩)) := hE 0 (of_decide_eq_true (by kernel_rfl))
      exact good_move (wanted_none rfl) rfl f0
    · intro b w' h hE
      have f1 : b.tmps.getD 1 undef = (pp x.2.1) := hE 1 (of_decide_eq_true (by kernel_rfl))
      exact good_move (wanted_none rfl) rfl f1
    · intro b w' h hE
      have f9 : b.tmps.getD 9 undef = (.pointer (some ⟨p, 4, none⟩)) := h.dep 5 _ 9 (by kernel_rfl) rfl rfl
      have g9 : b.tmps[9]?.getD undef = (.pointer (some ⟨p, 4, none⟩)) := by rw [← Array.getD_eq_getD_getElem?]; exact f9
      have f10 : b.tmps.getD 10 undef = (pp x.2.1) := h.dep 6 _ 10 (by kernel_rfl) rfl rfl
      have g10 : b.tmps[10]?.getD undef = (pp x.2.1) := by rw [← Array.getD_eq_getD_getElem?]; exact f10
      refine good_call (wanted_none rfl) rfl (enters Try.func69 (by kernel_rfl) rfl) ?_; rw [show (#[.tmp 9, .tmp 10] : Array Operand).map b.eval = #[(.pointer (some ⟨p, 4, none⟩)), (pp x.2.1)] by simp [Act.eval, g9, g10]]; exact (hpl.out w' h.ext).mono fun e w1 ⟨he, hx⟩ => ⟨_, he, rfl, hx⟩
    · intro b w' h hE
      have f1 : b.tmps.getD 1 undef = (pp x.2.1) := hE 1 (of_decide_eq_true (by kernel_rfl))
      exact good_move (wanted_none rfl) rfl f1
    · intro b w' h hE
      have f12 : b.tmps.getD 12 undef = (pp x.2.1) := h.dep 8 _ 12 (by kernel_rfl) rfl rfl
      have g12 : b.tmps[12]?.getD undef = (pp x.2.1) := by rw [← Array.getD_eq_getD_getElem?]; exact f12
      have hb1 : (Instr.buildSlice 61 1 #[(0, pp x.2.1)]).run Try.prog w' = .ok (.slice (some ⟨w'.heap.size, 0, none⟩) 1 1) (w'.alloc (.cells #[pp x.2.1] 90)) := by simp [go_sem]
      refine good_grow (w' := w'.alloc (.cells #[pp x.2.1] 90)) (v := .slice (some ⟨w'.heap.size, 0, none⟩) 1 1) (wanted_none rfl) ?_ ⟨_, rfl, by have := h.ext.size; rw [hW0]; exact this, Ob.new w' _ [_]⟩ ((Ext.refl _).alloc _)
      simp [execOp, Act.eval, g12, hb1, Sem.run_bind, Sem.run_pure, Result.andThen_ok]
  · intro b w2 hX2 hd hz he' hf
    have e4 : b.tmps.getD 4 undef = (.pointer (some ⟨p, 4, none⟩)) := hf 0 _ 4 (by omega) rfl rfl
    have e5 : b.tmps.getD 5 undef = (.pointer (some ⟨p, 4, none⟩)) := hf 1 _ 5 (by omega) rfl rfl
    have e6 : b.tmps.getD 6 undef = (.pointer (some ⟨p, 4, none⟩)) := hf 2 _ 6 (by omega) rfl rfl
    have e7 : b.tmps.getD 7 undef = (.pointer (some ⟨p, 4, none⟩)) := hf 3 _ 7 (by omega) rfl rfl
    have e8 : b.tmps.getD 8 undef = (.slice A L.length cap) := hf 4 _ 8 (by omega) rfl rfl
    have e9 : b.tmps.getD 9 undef = (.pointer (some ⟨p, 4, none⟩)) := hf 5 _ 9 (by omega) rfl rfl
    have e10 : b.tmps.getD 10 undef = (pp x.2.1) := hf 6 _ 10 (by omega) rfl rfl
    have e11 : b.tmps.getD 11 undef = (.int .i64 N) := hf 7 _ 11 (by omega) rfl rfl
    have e12 : b.tmps.getD 12 undef = (pp x.2.1) := hf 8 _ 12 (by omega) rfl rfl
    have f9 : ∃ xb, (b.tmps.getD 13 undef) = .slice (some ⟨xb, 0, none⟩) 1 1 ∧ W0.heap.size ≤ xb ∧ Ob w2 xb 90 [pp x.2.1] := hf 9 _ 13 (by omega) rfl rfl
    have e := frame_puts hd hz he'
    obtain ⟨X, hXx⟩ : ∃ X : Nat → Value, ∀ d, b.tmps.getD d undef = X d := ⟨_, fun _ => rfl⟩
    rw [hXx] at e4 e5 e6 e7 e8 e9 e10 e11 e12 f9
    obtain ⟨xb, q13, hxb, hob⟩ := f9
    rw [show dstsOf _ = [4, 5, 6, 7, 8, 9, 10, 11, 12, 13] from rfl] at e
    simp only [List.foldl_cons, List.foldl_nil, hXx, Act.put, List.setIfInBounds_toArray, List.set_cons_succ, List.set_cons_zero] at e
    rw [e4, e5, e6, e7, e8, e9, e10, e11, e12, q13] at e
    clear hf he' hz hd hXx e4 e5 e6 e7 e8 e9 e10 e11 e12 q13
    subst e
    have hzw := hX2.size
    simp only [List.drop_succ_cons, List.drop_zero]
    have hI := hide (hins2.out w2 xb hX2 hob (by rw [← hW0]; exact hxb))
    have hgx := hide hX2
    have p4 := pcell_later hX2 c4h.out
    clear hob hxb
    go_wp2_with (go_at_call 70; refine hI.out.mono ?_; rintro ee w3 ⟨u', rfl, ho2, hF2, hk2⟩; obtain ⟨A2, cap2, hu2⟩ := own_form ho2; subst hu2; have hres := hide (hfin.out _ _ hgx.out _ hF2 ho2 hk2); have pf := hide (hPh.out.ob.fr ((Fr.of_ext hgx.out).trans hF2) (by simpa using p_not_own hPh.out)); have q4 := pf.out.cell 4 rfl; have qf := pf.out.free 4; haveI : In p w3 := ⟨pf.out.lt⟩)
    dsimp only [onN]
    go_end0
    exact ⟨rfl, _, hres.out⟩
end
end Go.Proofs.Ytkfdkjjocdbolaa
set_option linter.unusedVariables false
set_option linter.unusedSimpArgs false
namespace Go.Proofs.Ytkfdkjjocdbolaa
open Go.RowKit
attribute [local go_sem] GW.cell GW.frozen In.eq_true In.le_true In.ne In.ne' In.ne_add In.ne_add' In.lt_add Upto.le_true Upto.le_add Upto.lt_add
section
variable {w : World} {base p : Nat} {sv : Value} {c ser : Int} {mb : Nat} {u : Value} {L : List Pb}
theorem pst_form (h : Pst w base p sv c ser mb u L) : (u = .slice none 0 0 ∧ L = []) ∨ ∃ g cap, u = .slice (some ⟨g, 0, none⟩) L.length cap ∧ L.length ≤ cap ∧ cap ≤ 9223372036854775807 := by
  rcases h.own.2 with ⟨h', h0⟩ | ⟨g, cap, cur, h', hb, hg, hnc, hcm, hcs, htake⟩
  · exact .inl ⟨h', List.eq_nil_of_length_eq_zero h0⟩
  · unfold maxLen at hcm
    exact .inr ⟨g, cap, h', hnc, by omega⟩
/-- A past whose row was written, and then itself. -/
theorem pst_turn (hP : Pst w base p sv c ser mb u L) {w1 w2 : World} (hX : Ext w w1) (hF : Fr u.ownBlock.toList w1 w2) {u' : Value} {L' : List Pb} (hs : ∀ y ∈ L', Evb w y) (ho : w2.ownsRow base 90 1 u' L'.length (tg1 (blks L'))) :
    Pst (w2.setCell ⟨p, 4, none⟩ u') base p sv c ser mb u' L' ∧ Fr (wrt p u) w (w2.setCell ⟨p, 4, none⟩ u') := by
  have hF1 : Fr u.ownBlock.toList w w2 := (Fr.of_ext hX).trans hF
  have hF2 : Fr (wrt p u) w w2 := hF1.more fun b _ hb => List.mem_cons_of_mem _ hb
  have hob2 : Ob w2 p 65 [sv, .int .i64 c, .int .i64 ser, .map (some mb), u] := hP.ob.fr hF1 (by simpa using p_not_own hP)
  have hF3 : Fr (wrt p u) w (w2.setCell ⟨p, 4, none⟩ u') := hF2.setCell _ _ (.inl (by simp))
  exact ⟨⟨hob2.set 4 _, pmown_far ho 4 u' (Ob.not_own hob2 ho (by decide)), fun y hy => evb_fr (hs y hy) hP hF3 fun _ h => h⟩, hF3⟩
set_option maxHeartbeats 4000000 in
set_option maxRecDepth 100000 in
theorem pleave_c (a r : List Pb) (x : Pb) (hLe : L = a ++ x :: r) (w : World) (hP : Pst w base p sv c ser mb u L) (hs : Srt L) (hL : L.length ≤ 8192) :
    Calls Try.prog 49 #[.pointer (some ⟨p, 4, none⟩), pp x.2.1] w fun e w' => e = .returned (.tuple #[]) ∧ ∃ u', Pst w' base p sv c ser mb u' (a ++ r) ∧ Fr (wrt p u) w w' ∧ u'.ownBlock = u.ownBlock := by
  subst hLe
  have hx : Evb w x := hP.evs x (by simp)
  have hpl := hide (pplace_c x w hP hs hx (by omega))
  rw [pl_at hs] at hpl
  rcases pst_form hP with ⟨-, h0⟩ | ⟨g, cap, rfl, hc1, hc2⟩
  · simp at h0
  have hlen : (a ++ x :: r).length = (blks (a ++ x :: r)).length := (blks_len _).symm
  have hown := hP.own
  have hd := hide (fun (w1 : World) (hX : Ext w w1) => pdel1_c base g cap a.length (blks (a ++ x :: r)) w1 (by rw [← hlen]; exact own_ext hown hX) (by rw [← hlen]; simp) (by rw [← hlen]; omega))
  have hbl : (blks (a ++ x :: r)).take a.length ++ (blks (a ++ x :: r)).drop (a.length + 1) = blks (a ++ r) := by
    rw [← blks_take, ← blks_drop, List.take_left, show a ++ x :: r = (a ++ [x]) ++ r by simp, show a.length + 1 = (a ++ [x]).length by simp, List.drop_left, blks_app]
  rw [hbl, ← hlen, show (a ++ x :: r).length - 1 = (a ++ r).length by simp] at hd
  have hturn := hide (fun w1 w2 u' (hX : Ext w w1) (hF : Fr [g] w1 w2) (ho : w2.ownsRow base 90 1 u' (a ++ r).length (tg1 (blks (a ++ r)))) => pst_turn hP (w1 := w1) (w2 := w2) hX (show Fr (Value.slice (some ⟨g, 0, none⟩) (a ++ x :: r).length cap).ownBlock.toList w1 w2 from hF) (fun y hy => hP.evs y (by
    rcases List.mem_append.1 hy with h | h
    · exact List.mem_append_left _ h
    · exact List.mem_append_right _ (List.mem_cons_of_mem _ h))) ho)
  have c4 := hP.ob.cell 4 rfl
  have hPh := hide hP
  haveI : In p w := ⟨hP.ob.lt⟩
  have hal : a.length < (a ++ x :: r).length := by simp
  have halI : (a.length : Int) + 1 ≤ 9000 := by omega
  generalize a.length = N at *
  generalize hM : (a ++ x :: r).length = M at *
  replace hM := hide hM
  generalize hM2 : (a ++ r).length = M2 at *
  replace hM2 := hide hM2
  clear hP hown hlen hx hs hbl
  go_enter Try.func49, Try.ntmps49
  go_wp2_with (first
    | (go_at_call 69; (with_reducible refine seq_gw hpl.out ?_); intro g1)
    | (go_at_call 68; refine (hd.out _ g1.grown).mono ?_; rintro ee w2 ⟨rfl, ho2, hF2⟩; have hres := hide (hturn.out _ _ _ g1.grown hF2 ho2); have pf := hide (hPh.out.ob.fr ((Fr.of_ext g1.grown).trans hF2) (by simp only [List.mem_singleton]; intro e; exact p_not_own hPh.out (by rw [e]; rfl))); have q4 := pf.out.cell 4 rfl; have qf := pf.out.free 4; haveI : In p w2 := ⟨pf.out.lt⟩))
  go_end0
  exact ⟨rfl, _, hres.out.1, hres.out.2, rfl⟩
set_option maxHeartbeats 4000000 in
set_option maxRecDepth 100000 in
theorem pcut_c (t : Int) (w : World) (hP : Pst w base p sv c ser mb u L) (hs : Srt L) (hL : L.length ≤ 8192) :
    Calls Try.prog 47 #[.pointer (some ⟨p, 4, none⟩), .int .i64 t] w fun e w' => ∃ vo u' n, e = .returned vo ∧ n = ldN (fun y => decide (pTo y ≤ t)) L ∧ w'.ownsRow w.heap.size 90 1 vo (L.take n).length (tg1 (blks (L.take n))) ∧ Pst w' base p sv c ser mb u' (L.drop n) ∧ Fr (wrt p u) w w' ∧ u'.ownBlock = u.ownBlock := by
  obtain ⟨W1, hW1⟩ : ∃ W1, W1 = w.alloc (.cells #[.int .i64 t] 3) := ⟨_, rfl⟩
  have hX1 : Ext w W1 := by rw [hW1]; exact (Ext.refl w).alloc _
  have hB : Ob W1 w.heap.size 3 [.int .i64 t] := by rw [hW1]; exact Ob.new w _ [_]
  have hfe : (fun y : Pb => !(decide (t < pTo y))) = fun y => decide (pTo y ≤ t) := by
    funext y
    by_cases h : t < pTo y
    · rw [decide_eq_true h, decide_eq_false (by omega)]; rfl
    · rw [decide_eq_false h, decide_eq_true (by omega)]; rfl
  have ha := hide (pahead_c 66 #[.pointer (some ⟨w.heap.size, 0, none⟩)] (fun y => decide (t < pTo y)) (enters_of Try.func66 (by kernel_rfl) rfl) (by rw [hfe]; exact srt_downT hs t) W1 (hP.ext hX1)
    (fun w' hX y hy => pcut1_c t y w.heap.size w' ((hP.evs y hy).ext (hX1.trans hX)) (hB.ext hX)) (by omega))
  rw [hfe] at ha
  obtain ⟨n, hn⟩ : ∃ n, n = ldN (fun y => decide (pTo y ≤ t)) L := ⟨_, rfl⟩
  have hnl : n ≤ L.length := by rw [hn]; exact ld_le _ _
  rw [← hn] at ha
  have c4 := hP.ob.cell 4 rfl
  have hPh := hide hP
  haveI : In p w := ⟨hP.ob.lt⟩
  have hX1h := hide hX1
  have hW1h := hide hW1
  have hnh := hide hn
  clear hB hs hn hX1 hW1
  have hturn := hide (fun w1 w2 u' (hX : Ext w w1) (hF : Fr u.ownBlock.toList w1 w2) (ho : w2.ownsRow base 90 1 u' (L.drop n).length (tg1 (blks (L.drop n)))) => pst_turn hP (w1 := w1) (w2 := w2) hX hF (fun y hy => hP.evs y (List.mem_of_mem_drop hy)) ho)
  rcases pst_form hP with ⟨rfl, rfl⟩ | ⟨g, cap, rfl, hc1, hc2⟩
  · have hn0 : n = 0 := by simpa using hnl
    subst hn0
    have hcl := hide (fun w' => pclone_c [] (.slice none 0 0) w' (Sl.nil _ _ _) (by simp))
    have hde := hide (fun w' => pdel0_c none 0 0 (Nat.le_refl _) (fun _ => ⟨rfl, rfl⟩) w')
    clear hP
    go_enter Try.func47, Try.ntmps47
    go_wp2_with fail
    rw [← hW1h.out]
    refine seq_gw ha.out ?_
    intro g1
    have p4 := pcell_later (hX1h.out.trans g1.grown) c4
    go_wp2_with (go_at_call 67; refine (hcl.out _).mono ?_; rintro ee w2 ⟨vo, rfl, ho2, hX2⟩; have p5 := pcell_later hX2 p4; obtain ⟨A2, cap2, hu2⟩ := own_form ho2; subst hu2; replace ho2 := hide ho2; replace hX2 := hide hX2)
    refine (hde.out _).mono ?_
    rintro ee w3 ⟨rfl, hX3⟩
    have hX4 := ((hX1h.out.trans g1.grown).trans hX2.out).trans hX3
    have hres := hide (hturn.out _ _ (.slice none 0 0) hX4 (Fr.refl _ _) (World.ownsRow_nil _ _ _ _))
    have pf := hide (hPh.out.ob.ext hX4)
    have q4 := pf.out.cell 4 rfl
    have qf := pf.out.free 4
    haveI : In p w3 := ⟨pf.out.lt⟩
    have ho3 := hide (own_ext ho2.out hX3)
    have hbs := hide ((hX1h.out.trans g1.grown).size)
    go_wp2_with fail
    go_returns
    refine ⟨_, _, 0, rfl, hnh.out, pmown_far (own_base ho3.out hbs.out) 4 _ (Ob.not_own pf.out ho3.out (by decide)), hres.out.1, hres.out.2, rfl⟩
  · have hlen2 : (blks (L.take n)).length = n := by rw [blks_len, List.length_take]; omega
    have hlt2 : (L.take n).length = n := by rw [List.length_take]; omega
    have hld2 : (L.drop n).length = L.length - n := by rw [List.length_drop]
    have hown := hP.own
    have htk : (tg1 (blks L)).take (n * 1) = tg1 (blks (L.take n)) := by rw [Nat.mul_one, tg1_take, blks_take]
    have hcl := hide (fun w1 (hX : Ext w w1) => pclone_c (blks (L.take n)) (.slice (some ⟨g, 0, none⟩) n cap) w1 (by
      have h1 := pmown_take (own_ext hown hX) (i := n) hnl
      rw [htk] at h1
      rw [hlen2]
      exact Sl.own h1 (by simp)) (by rw [hlen2]; omega))
    rw [hlen2] at hcl
    rw [hld2] at hturn
    have hncap : n ≤ cap := by omega
    have hPc := hide hP
    clear hP
    by_cases h0 : n = 0
    · subst h0
      have hde := hide (fun w' => pdel0_c (some ⟨g, 0, none⟩) L.length cap hc1 (fun h => by cases h) w')
      go_enter Try.func47, Try.ntmps47
      go_wp2_with fail
      rw [← hW1h.out]
      refine seq_gw ha.out ?_
      intro g1
      have hX5 := hide (hX1h.out.trans g1.grown)
      have p4 := pcell_later hX5.out c4
      haveI : In p g1.val := ⟨block_lt_of_cell p4⟩
      go_wp2_with fail
      refine (hcl.out _ hX5.out).mono ?_
      rintro ee w2 ⟨vo, rfl, ho2, hX2⟩
      have p5 := pcell_later hX2 p4
      obtain ⟨A2, cap2, hu2⟩ := own_form ho2
      subst hu2
      replace ho2 := hide ho2
      replace hX2 := hide hX2
      go_wp2_with fail
      refine (hde.out _).mono ?_
      rintro ee w3 ⟨rfl, hX3⟩
      have hX4 := (hX5.out.trans hX2.out).trans hX3
      have hres := hide (hturn.out _ _ (.slice (some ⟨g, 0, none⟩) L.length cap) hX4 (Fr.refl _ _) (by rw [List.drop_zero, Nat.sub_zero]; exact own_ext hown hX4))
      have pf := hide (hPh.out.ob.ext hX4)
      have q4 := pf.out.cell 4 rfl
      have qf := pf.out.free 4
      haveI : In p w3 := ⟨pf.out.lt⟩
      have ho3 := hide (own_ext ho2.out hX3)
      have hbs := hide hX5.out.size
      clear hown htk
      go_wp2_with fail
      go_returns
      refine ⟨_, _, 0, rfl, hnh.out, ?_, hres.out.1, hres.out.2, rfl⟩
      rw [hlt2]
      exact pmown_far (own_base ho3.out hbs.out) 4 _ (Ob.not_own pf.out ho3.out (by decide))
    · have hde := hide (fun (w1 : World) (hX : Ext w w1) => pdelA_c base g cap n (blks L) w1 (by rw [blks_len]; exact own_ext hown hX) (by omega) (by rw [blks_len]; exact hnl) (by rw [blks_len]; omega))
      rw [← blks_drop, blks_len] at hde
      have hnI : (n : Int) ≤ L.length := by omega
      go_enter Try.func47, Try.ntmps47
      go_wp2_with fail
      rw [← hW1h.out]
      refine seq_gw ha.out ?_
      intro g1
      have hX5 := hide (hX1h.out.trans g1.grown)
      have p4 := pcell_later hX5.out c4
      haveI : In p g1.val := ⟨block_lt_of_cell p4⟩
      go_wp2_with fail
      refine (hcl.out _ hX5.out).mono ?_
      rintro ee w2 ⟨vo, rfl, ho2, hX2⟩
      have p5 := pcell_later hX2 p4
      obtain ⟨A2, cap2, hu2⟩ := own_form ho2
      subst hu2
      replace ho2 := hide ho2
      replace hX2 := hide hX2
      go_wp2_with fail
      refine (hde.out _ (hX5.out.trans hX2.out)).mono ?_
      rintro ee w3 ⟨rfl, ho6, hF6⟩
      have hX4 := hX5.out.trans hX2.out
      have hres := hide (hturn.out _ _ _ hX4 hF6 ho6)
      have hgp : p ≠ g := fun e => p_not_own hPh.out (by rw [e]; rfl)
      have pf := hide (hPh.out.ob.fr ((Fr.of_ext hX4).trans hF6) (by simpa using hgp))
      have q4 := pf.out.cell 4 rfl
      have qf := pf.out.free 4
      haveI : In p w3 := ⟨pf.out.lt⟩
      have hgw : g < w.heap.size := (hown.lt g rfl).2
      have hbs := hide hX5.out.size
      have ho3 := hide (powns_fr ho2.out hF6 (fun x hx => by
        have := (ho2.out.lt x hx).1
        have := hbs.out
        simp; omega))
      clear hown htk
      go_wp2_with fail
      go_returns
      refine ⟨_, _, n, rfl, hnh.out, ?_, hres.out.1, hres.out.2, rfl⟩
      rw [hlt2]
      exact pmown_far (own_base ho3.out hbs.out) 4 _ (Ob.not_own pf.out ho3.out (by decide))
end
end Go.Proofs.Ytkfdkjjocdbolaa
set_option linter.unusedVariables false
set_option linter.unusedSimpArgs false
namespace Go.Proofs.Ytkfdkjjocdbolaa
open Go.RowKit
attribute [local go_sem] GW.cell GW.frozen In.eq_true In.le_true In.ne In.ne' In.ne_add In.ne_add' In.lt_add Upto.le_true Upto.le_add Upto.lt_add
/-- What holds no cells of a past's own stays. -/
def Kq (w w' : World) : Prop := ∀ C T vs, Ob w C T vs → T ≠ 65 → T ≠ 90 → Ob w' C T vs
theorem Kq.trans {a b c : World} (h : Kq a b) (k : Kq b c) : Kq a c := fun C T vs o h1 h2 => k C T vs (h C T vs o h1 h2) h1 h2
theorem kq_ext {w w' : World} (h : Ext w w') : Kq w w' := fun C T vs o _ _ => o.ext h
theorem own_kq {w w' : World} {B e size n : Nat} {v : Value} {xs : List Value} (h : w.ownsRow B e size v n xs) (k : Kq w w') (h1 : e ≠ 65) (h2 : e ≠ 90) : w'.ownsRow B e size v n xs := by
  refine ⟨h.1, h.2.imp id fun ⟨g, cap, cur, e', hb, hg, rest⟩ => ⟨g, cap, cur, e', hb, ?_, rest⟩⟩
  have h4 : Ob w g e cur.toList := by unfold Ob; rw [hg, Array.toArray_toList]
  have h5 := k _ _ _ h4 h1 h2
  unfold Ob at h5
  rw [h5, Array.toArray_toList]
theorem pmv_fr {α : Type} {P : Program} {kt : TypeId} {f : α → Lit × Value} {b n : Nat} {M : List α} {w w' : World} {S : List Nat} (h : Mv w P kt f b n M) (k : Fr S w w') (hn : b ∉ S) : Mv w' P kt f b n M := by
  obtain ⟨es, ⟨e1, clock, hb, F, hs, hD⟩, p⟩ := h
  exact ⟨es, ⟨e1, clock, (k.block b (lt_of_block hb) hn).trans hb, F, hs, hD⟩, p⟩
theorem mv_ob {α : Type} {P : Program} {kt : TypeId} {f : α → Lit × Value} {b n : Nat} {M : List α} {w : World} (h : Mv w P kt f b n M) {C : Nat} {T : TypeId} {vs : List Value} (o : Ob w C T vs) : C ≠ b := by
  obtain ⟨es, ⟨e1, clock, hb, -⟩, -⟩ := h
  intro e
  subst e
  unfold Ob at o
  rw [o] at hb
  cases hb
theorem kq_map {α : Type} {P : Program} {kt : TypeId} {f : α → Lit × Value} {b n : Nat} {M : List α} {w w' : World} (h : Mv w P kt f b n M) (hg : w.grownBy w' (some b)) : Kq w w' := fun C T vs o _ _ => o.grown hg (by simp; exact mv_ob h o)
section
variable {w : World} {base p : Nat} {sv : Value} {c ser : Int} {mb n : Nat} {u : Value} {L : List Pb}
theorem kq_fr (hP : Pst w base p sv c ser mb u L) {w' : World} {S : List Nat} (k : Fr S w w') (hS : ∀ b, b ∈ S → b ∈ wrt p u) : Kq w w' := fun C T vs o h1 h2 => by
  refine o.fr k fun hm => ?_
  rcases List.mem_cons.1 (hS _ hm) with e | e
  · exact Ob.ne o hP.ob h1 e
  · exact Ob.not_own o hP.own (fun e => h2 e.symm) (by simpa using e)
theorem mb_wrt (hP : Pst w base p sv c ser mb u L) (hM : Mv w Try.prog 3 kentP mb n L) : mb ∉ wrt p u := fun hm => by
  rcases List.mem_cons.1 hm with e | e
  · exact mv_ob hM hP.ob e.symm
  · rcases hP.own.2 with ⟨h', h0⟩ | ⟨g, cap, cur, rfl, hb, hg, -⟩
    · subst h'; simp [Value.ownBlock] at e
    · have e1 : mb = g := by simp [Value.ownBlock] at e; first | exact e | exact e.symm
      have h4 : Ob w g 90 cur.toList := by unfold Ob; rw [hg, Array.toArray_toList]
      exact mv_ob hM h4 e1.symm
end
/-- A past in memory, with its schema and the rows of its events. -/
structure Pz (w : World) (base p : Nat) (sc : List Cl) (c ser : Int) (mb n : Nat) (L : List Pb) : Prop where
  st : ∃ sv u, Pst w base p sv c ser mb u L ∧ w.ownsRow 0 58 2 sv sc.length (cl sc)
  map : Mv w Try.prog 3 kentP mb n L
  rows : ∀ y ∈ L, RwO w y.2.2 y.1.2.1
theorem Mv.ext {α : Type} {P : Program} {kt : TypeId} {f : α → Lit × Value} {b n : Nat} {M : List α} {w w' : World} (h : Mv w P kt f b n M) (k : Ext w w') : Mv w' P kt f b n M := h.kept (row := none) ⟨k.os, k.tape, k.output, k.size, fun i hi _ => k.block i hi⟩ (by simp)
theorem Pz.ext {w w' : World} {base p : Nat} {sc : List Cl} {c ser : Int} {mb n : Nat} {L : List Pb} (h : Pz w base p sc c ser mb n L) (k : Ext w w') : Pz w' base p sc c ser mb n L := by
  obtain ⟨⟨sv, u, h1, h2⟩, h3, h4⟩ := h
  exact ⟨⟨sv, u, h1.ext k, own_ext h2 k⟩, Mv.ext h3 k, fun y hy => own_ext (h4 y hy) k⟩
theorem pkey_of {id : Int} (h : inI id) : keyOf Try.prog 3 (.int .i64 id) = some (.int .i64 id) := Go.Maps.keyOf_int_mk Try.underlying3 (by unfold inI at h; simp [Lit.wf, IntKind.min, IntKind.max]; first | omega | (simp [IntKind.wrap, IntKind.bits, IntKind.signed]; omega))
theorem pKey : Go.Maps.Keyed Try.prog 3 := Go.Maps.int_keyed Try.underlying3
def ptV : Option Pb → Value
  | some q => pp q.2.1
  | none => .pointer none
theorem plook_ok {w : World} {mb n : Nat} {L : List Pb} (h : Mv w Try.prog 3 kentP mb n L) {id : Int} (hi : inI id) : ∀ w' [Gn w w'], (Instr.lookup 60 (.map (some mb)) (.int .i64 id) true).run Try.prog w' = .ok (.tuple #[ptV (atP L id), .bool (atP L id).isSome]) w' := fun w' k => by
  rw [(Mv.ext h k.ext).lookOk pKey Try.underlying60 (Try.zeroValue90 w') (pkey_of hi)]
  show Result.ok (Value.tuple #[((atP L id).map fun q => (kentP q).2).getD (.pointer none), .bool (atP L id).isSome]) w' = _
  cases atP L id <;> rfl
section
variable {w : World} {base p : Nat} {sc : List Cl} {c ser : Int} {mb n : Nat} {L : List Pb}
set_option maxHeartbeats 2000000 in
theorem pserialOf_c (id : Int) (hi : inI id) (w : World) (h : Pz w base p sc c ser mb n L) (hs : 0 ≤ ser ∧ ser ≤ 1099511627776) : Calls Try.prog 25 #[.pointer (some ⟨p, 0, none⟩), .int .i64 id] w fun e w' => e = .returned (.int .i64 (match atP L id with | some y => (pSer y : Int) | none => ser + 1)) ∧ Ext w w' := by
  obtain ⟨⟨sv, u, hP, -⟩, hM, -⟩ := h
  have c2 := hP.ob.cell 2 rfl
  have c3 := hP.ob.cell 3 rfl
  have hl := plook_ok hM hi
  cases ho : atP L id with
  | none =>
    rw [ho] at hl
    replace hl : ∀ w' [Gn w w'], (Instr.lookup 60 (.map (some mb)) (.int .i64 id) true).run Try.prog w' = .ok (.tuple #[.pointer none, .bool false]) w' := hl
    clear hP hM ho
    simp only
    go_enter Try.func25, Try.ntmps25
    go_wp2_with fail
    go_returns
    exact ⟨rfl, Ext.refl _⟩
  | some y =>
    rw [ho] at hl
    replace hl : ∀ w' [Gn w w'], (Instr.lookup 60 (.map (some mb)) (.int .i64 id) true).run Try.prog w' = .ok (.tuple #[pp y.2.1, .bool true]) w' := hl
    have a1 := Ob.cell (hP.evs y (atP_some ho).1) 1 rfl
    clear hP hM ho
    simp only
    generalize y.2.1 = yb at *
    go_enter Try.func25, Try.ntmps25
    go_wp2_with fail
    go_returns
    exact ⟨rfl, Ext.refl _⟩
theorem del_drop {L : List Pb} (hi : Ids L) {k : Nat} {x : Pb} (hx : L[k]? = some x) : delP (L.drop k) (pId x) = L.drop (k + 1) := by
  have e : L.drop k = x :: L.drop (k + 1) := by
    obtain ⟨hk, ex⟩ := List.getElem?_eq_some_iff.1 hx
    rw [← ex, ← List.getElem_cons_drop]
  have h2 : Ids (L.drop k) := List.Pairwise.drop hi
  rw [e] at h2 ⊢
  exact del_mid (a := []) h2
set_option maxHeartbeats 4000000 in
set_option maxRecDepth 100000 in
theorem ppass_c (t : Int) (w : World) (h : Pz w base p sc c ser mb n L) (hs : Srt L) (hids : Ids L) (hin : ∀ y ∈ L, inI (pId y)) (hL : L.length ≤ 8192) (hbw : base ≤ w.heap.size) (hbm : base ≤ mb) (hbp : base ≤ p) :
    Calls Try.prog 22 #[.pointer (some ⟨p, 0, none⟩), .int .i64 t] w fun e w' => e = .returned (.tuple #[]) ∧ Pz w' base p sc t ser mb n (L.drop (ldN (fun y => decide (pTo y ≤ t)) L)) ∧ Kq w w' ∧ Below base w w' := by
  obtain ⟨⟨sv, u, hP, hC⟩, hM, hR⟩ := h
  obtain ⟨W1, hW1⟩ : ∃ W1, W1 = w.setCell ⟨p, 1, none⟩ (.int .i64 t) := ⟨_, rfl⟩
  have hF1 : Fr [p] w W1 := by rw [hW1]; exact (Fr.refl _ w).setCell _ _ (.inl (by simp))
  have hpn := p_not_own hP
  have hP1 : Pst W1 base p sv t ser mb u L := ⟨by rw [hW1]; exact hP.ob.set 1 _, powns_fr hP.own hF1 (fun r hr => by simp; intro e; subst e; exact hpn hr), fun y hy => evb_fr (hP.evs y hy) hP hF1 (by simp)⟩
  have hK1 : Kq w W1 := kq_fr hP hF1 (by simp)
  have hM1 : Mv W1 Try.prog 3 kentP mb n L := pmv_fr hM hF1 (by simp; exact fun e => mv_ob hM hP.ob e.symm)
  have hB1 : Below base w W1 := by rw [hW1]; exact Below.setCell (Below.refl _ _) hbp _
  have hcut := hide (pcut_c t W1 hP1 hs hL)
  have hm1 := ld_le (fun y => decide (pTo y ≤ t)) L
  obtain ⟨m, hmN⟩ : ∃ N, N = ldN (fun y => decide (pTo y ≤ t)) L := ⟨_, rfl⟩
  rw [← hmN] at hm1 ⊢
  simp only [← hmN] at hcut
  have f1 := hP.ob.free 1
  have c1 := hP.ob.cell 1 rfl
  haveI : In p w := ⟨hP.ob.lt⟩
  have hW1h := hide hW1
  have hMh := hide hM1
  have hRk := hide (fun (w2 : World) (hk : Kq w w2) (y : Pb) (hy : y ∈ L) => (own_kq (hR y hy) hk (by decide) (by decide) : RwO w2 y.2.2 y.1.2.1))
  have hCk := hide (fun (w2 : World) (hk : Kq w w2) => own_kq hC hk (by decide) (by decide))
  have hK1h := hide hK1
  have hB1h := hide hB1
  have hub := hide (fun b (hb : b ∈ wrt p u) => (show base ≤ b by
    rcases List.mem_cons.1 hb with rfl | hb
    · exact hbp
    · exact (hP.own.lt b (by simpa using hb)).1))
  have hP1h := hide hP1
  have hz1 : base ≤ W1.heap.size := by have := hF1.size; omega
  clear hP hM hR hC hK1 hB1 hP1 hM1 hF1 hW1 hpn hmN
  go_enter Try.func22, Try.ntmps22
  go_wp2_with fail
  rw [← hW1h.out]
  refine hcut.out.mono ?_
  rintro ee W2 ⟨vo, u', m', rfl, hm, hov, hP2, hF2, hub2⟩
  rw [hm] at hov hP2
  clear hm
  have hmt : (L.take m).length = m := by rw [List.length_take]; omega
  have hK2 := hide (hK1h.out.trans (kq_fr hP1h.out hF2 (fun _ h => h)))
  have hB2 : Hid (Below base w W2) := hB1h.out.trans (below_fr hF2 hz1 hub.out)
  have hM2 := hide (pmv_fr hMh.out hF2 (mb_wrt hP1h.out hMh.out))
  rw [hmt] at hov
  obtain ⟨A2, cap2, hu2⟩ := own_form hov
  subst hu2
  have hevs := hide (fun y (hy : y ∈ L) => evb_fr (hP1h.out.evs y hy) hP1h.out hF2 (fun _ h => h))
  replace hov := hide hov
  replace hP2 := hide hP2
  clear hF2 hub2 hcut
  go_wp2_with fail
  go_loopg [16] m (fun gh iv wr => ∃ (k : Nat), iv = .int .i64 k ∧ k + gh = m ∧ Hid (Mv wr Try.prog 3 kentP mb n (L.drop k)) ∧ Hid (Fr [mb] W2 wr))
  case atStart => exact ⟨0, rfl, by omega, by show Mv _ _ _ _ _ _ _; rw [List.drop_zero]; exact hM2.out, Fr.refl _ _⟩
  case round =>
    obtain ⟨k, rfl, hk, hMk, hFk⟩ := hrel
    by_cases hlt : k < m
    · obtain ⟨y, hy⟩ : ∃ y, L[k]? = some y := ⟨_, List.getElem?_eq_getElem (by omega)⟩
      have hym := List.mem_of_getElem? hy
      have hdd := hide (del_drop hids hy)
      have hcell : ∃ g, A2 = some ⟨g, 0, none⟩ ∧ g < wr.heap.size ∧ wr.cell? ⟨g, k, none⟩ = some (pp y.2.1) := by
        rcases hov.out.2 with ⟨h', h0⟩ | ⟨g, cap, cur, h', hb, hg, hnc, -⟩
        · omega
        · simp only [Value.slice.injEq] at h'
          obtain ⟨rfl, -, rfl⟩ := h'
          have hc := World.ownsRow.cellAt hov.out k (by omega)
          have hg2 := (World.ownsRow.lt hov.out g rfl).2
          have h4 : Ob W2 g 90 cur.toList := by unfold Ob; rw [hg, Array.toArray_toList]
          have hgm : g ∉ [mb] := by simp; exact mv_ob hM2.out h4
          refine ⟨g, rfl, Nat.lt_of_lt_of_le hg2 hFk.out.size, ?_⟩
          rw [World.cell?_of_block (a := ⟨g, k, none⟩) (hFk.out.block g hg2 hgm), hc]
          simp [tg1, blks, List.getElem?_take, hlt, hy]
      obtain ⟨g, rfl, hgl, cg⟩ := hcell
      have hev : Evb wr y := Ob.fr (hevs.out y hym) hFk.out (by simp; exact mv_ob hM2.out (hevs.out y hym))
      have hob : Ob wr p 65 _ := hP2.out.ob.fr hFk.out (by simp; exact mv_ob hM2.out hP2.out.ob)
      have a0 := Ob.cell hev 0 rfl
      have p3 := hob.cell 3 rfl
      haveI : In p wr := ⟨hob.lt⟩
      haveI : In y.2.1 wr := ⟨Ob.lt hev⟩
      haveI : In g wr := ⟨hgl⟩
      have hid := hide (hin y hym)
      have hkI : (k : Int) < m := by omega
      clear hy hev hob hym
      generalize y.2.1 = yb at *
      go_wp2_with fail
      refine wp_region_gw_tail 8 (by kernel_rfl) (by kernel_rfl) ?_
      simp only [List.take_succ_cons, List.take_zero, List.drop_succ_cons, List.drop_zero]
      repeat (go_big_quiet_step (fail))
      refine wpQuiet_nil ?_
      intro g1
      have hMg := hide (Mv.ext hMk.out g1.grown)
      go_wp2_with (at_delete; refine wpl_mdel rfl (.tmp 23) (.tmp 27) rfl rfl rfl pKey Try.underlying60 hMg.out (pkey_of hid.out) ?_; intro w5 hM5 hg5; replace hM5 := hide hM5; have hF5 := hide ((hFk.out.trans (Fr.of_ext g1.grown)).grown hg5 (fun z hz => by obtain rfl := Option.some.inj hz; exact .inl (by simp))))
      go_roundg (m - (k + 1))
      case measure => omega
      case rel => exact ⟨k + 1, by go_num, by omega, (by show Mv _ _ _ _ _ _ _; rw [← hdd.out]; exact hM5.out), hF5⟩
    · have hke : k = m := by omega
      subst hke
      have hge : ¬ (k : Int) < k := by omega
      have hKf := hide (hK2.out.trans (show Kq W2 wr from fun C T vs o _ _ => o.fr hFk.out (by simp; exact mv_ob hM2.out o)))
      have hBf := hide (hB2.out.trans (below_fr hFk.out (by have := hB2.out.size; omega) (by simp; exact hbm)))
      have hPf : Hid (Pst wr base p sv t ser mb u' (L.drop k)) := ⟨hP2.out.ob.fr hFk.out (by simp; exact mv_ob hM2.out hP2.out.ob), powns_fr hP2.out.own hFk.out (fun r hr => by
        simp
        rcases hP2.out.own.2 with ⟨h', h0⟩ | ⟨g, cap, cur, h', hb, hg, -⟩
        · rw [h'] at hr; simp [Value.ownBlock] at hr
        · rw [h'] at hr
          have h4 : Ob W2 g 90 cur.toList := by unfold Ob; rw [hg, Array.toArray_toList]
          have e1 : g = r := by simpa [Value.ownBlock] using hr
          rw [← e1]
          exact mv_ob hM2.out h4), fun y hy => Ob.fr (hP2.out.evs y hy) hFk.out (by simp; exact mv_ob hM2.out (hP2.out.evs y hy))⟩
      go_wp2_with fail
      go_end0
      exact ⟨rfl, ⟨⟨sv, u', hPf.out, hCk.out _ hKf.out⟩, hMk.out, fun y hy => hRk.out _ hKf.out y (List.mem_of_mem_drop hy)⟩, hKf.out, hBf.out⟩
end
end Go.Proofs.Ytkfdkjjocdbolaa
