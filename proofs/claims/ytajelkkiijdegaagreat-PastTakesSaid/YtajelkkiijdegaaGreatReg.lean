/-
  A helper of ours: no claim of its own. A region that draws its order and whose operations make memory: if each operation, in whatever grown world, leaves a value of which a fact holds that further growth does not end, then behind the region all the facts hold, whatever the order was.
-/
import Derived.Test.YtajelkkiijdegaaGreatPasD
import Derived.Test.YtajelkkiijdegaaGreatMem
import Derived.Orders
set_option linter.unusedVariables false
set_option linter.unusedSimpArgs false
namespace Go.Proofs.YtajelkkiijdegaaGreat
open Go.RowKit
attribute [local go_sem] GW.cell GW.frozen In.eq_true In.le_true In.ne In.ne' In.ne_add In.ne_add' In.lt_add Upto.le_true Upto.le_add Upto.lt_add
def blks (L : List Pb) : List Nat := L.map fun y => y.2.1
/-- A past, where it lies: what it is, its events' pointers in their order, the events. -/
structure Pst (w : World) (base p : Nat) (sv : Value) (c ser : Int) (mb : Nat) (u : Value) (L : List Pb) : Prop where
  ob : Ob w p 93 [sv, .int .i64 c, .int .i64 ser, .map (some mb), u]
  own : w.ownsRow base 103 1 u L.length (tg1 (blks L))
  evs : ∀ y ∈ L, Evb w y
theorem Pst.ext {w w' : World} {base p : Nat} {sv : Value} {c ser : Int} {mb : Nat} {u : Value} {L : List Pb} (h : Pst w base p sv c ser mb u L) (k : Ext w w') : Pst w' base p sv c ser mb u L := ⟨h.ob.ext k, own_ext h.own k, fun y hy => (h.evs y hy).ext k⟩
theorem pcell_later {W w : World} (h : Ext W w) {a : Addr} {v : Value} (hc : W.cell? a = some v) : w.cell? a = some v := (World.cell?_of_block (a := a) (h.block a.block (block_lt_of_cell hc))).trans hc
theorem pst_at {w : World} {base p : Nat} {sv : Value} {c ser : Int} {mb : Nat} {u : Value} {L : List Pb} (h : Pst w base p sv c ser mb u L) {i : Nat} {y : Pb} (hy : L[i]? = some y) : ∃ g cap, u = .slice (some ⟨g, 0, none⟩) L.length cap ∧ g < w.heap.size ∧ w.cell? ⟨g, i, none⟩ = some (pp y.2.1) := by
  have hi := (List.getElem?_eq_some_iff.1 hy).1
  rcases h.own.2 with ⟨h', h0⟩ | ⟨g, cap, cur, rfl, hb, hg, hnc, hcm, hcs, htake⟩
  · omega
  · refine ⟨g, cap, rfl, (World.ownsRow.lt h.own g rfl).2, ?_⟩
    rw [World.ownsRow.cellAt h.own i (by omega)]
    simp [tg1, blks, hy]
section
variable {w : World} {base p : Nat} {sv : Value} {c ser : Int} {mb : Nat} {u : Value} {L : List Pb}
def fAt (q : Pb → Bool) (L : List Pb) (i : Nat) : Bool := match L[i]? with
  | some y => q y
  | none => true
theorem fst_ld {q : Pb → Bool} {r : Nat} (hd : Down (fun y => !q y) L) (h : Fst (fAt q L) L.length r) : r = ldN (fun y => !q y) L := by
  obtain ⟨h1, h2, h3⟩ := h
  refine (ld_is hd h1 (fun i y hy hi => ?_) (fun i y hy hi => ?_)).symm
  · have := h2 i hi; unfold fAt at this; rw [hy] at this; simp only at this ⊢; rw [this]; rfl
  · have := h3 i hi (List.getElem?_eq_some_iff.1 hy).1; unfold fAt at this; rw [hy] at this; simp only at this ⊢; rw [this]; rfl
set_option maxHeartbeats 2000000 in
set_option maxRecDepth 100000 in
theorem pah1_c (gh : FuncId) (lbh : Array Value) (q : Pb → Bool) (be bh : Nat) (eg : ∀ args w, (callFunc gh args).run Tryz.prog w = .ok (.enter gh args) w) (w : World) (hP : Pst w base p sv c ser mb u L) (hE : Ob w be 205 [.pointer (some ⟨p, 4, none⟩)]) (hH : Ob w bh 170 [.func (.func gh) #[] lbh])
    (hh : ∀ w', Ext w w' → ∀ y ∈ L, Calls Tryz.prog gh (#[pp y.2.1] ++ lbh) w' fun e w2 => e = .returned (.bool (q y)) ∧ Ext w' w2) (i : Nat) (hi : i < L.length) (hL : L.length ≤ 1048576) :
    Calls Tryz.prog 199 #[.int .i64 i, .pointer (some ⟨bh, 0, none⟩), .pointer (some ⟨be, 0, none⟩)] w fun e w' => e = .returned (.bool (fAt q L i)) ∧ Ext w w' := by
  obtain ⟨y, hy⟩ : ∃ y, L[i]? = some y := ⟨_, List.getElem?_eq_getElem hi⟩
  obtain ⟨g, cap, rfl, hg, cg⟩ := pst_at hP hy
  have c4 := hP.ob.cell 4 rfl
  have e0 := hE.cell 0 rfl
  have h0 := hH.cell 0 rfl
  haveI : In p w := ⟨hP.ob.lt⟩
  haveI : In be w := ⟨hE.lt⟩
  haveI : In bh w := ⟨hH.lt⟩
  haveI : In g w := ⟨hg⟩
  have hf : fAt q L i = q y := by unfold fAt; rw [hy]
  rw [hf]
  have hcl := hide (fun w' (hX : Ext w w') => hh w' hX y (List.mem_of_getElem? hy))
  have hiI : (i : Int) < L.length := by omega
  generalize q y = Q at *
  clear hh hP hE hH hf hy
  go_enter Tryz.func199, Tryz.ntmps199
  go_wp2_with fail
  refine wp_region_gw_tail 8 (by kernel_rfl) (by kernel_rfl) ?_
  simp only [List.take_succ_cons, List.take_zero, List.drop_succ_cons, List.drop_zero]
  repeat (go_big_quiet_step (fail))
  refine wpQuiet_nil ?_
  intro g1
  go_wp2_with fail
  refine (hcl.out _ g1.grown).mono ?_
  rintro ee w2 ⟨rfl, hX2⟩
  replace hX2 := hide hX2
  go_wp2_with fail
  go_returns
  exact ⟨rfl, g1.grown.trans hX2.out⟩
set_option maxHeartbeats 2000000 in
set_option maxRecDepth 100000 in
theorem pahead_c (gh : FuncId) (lbh : Array Value) (q : Pb → Bool) (eg : ∀ args w, (callFunc gh args).run Tryz.prog w = .ok (.enter gh args) w) (hd : Down (fun y => !q y) L) (w : World) (hP : Pst w base p sv c ser mb u L)
    (hh : ∀ w', Ext w w' → ∀ y ∈ L, Calls Tryz.prog gh (#[pp y.2.1] ++ lbh) w' fun e w2 => e = .returned (.bool (q y)) ∧ Ext w' w2) (hL : L.length ≤ 1048576) :
    Calls Tryz.prog 145 #[.pointer (some ⟨p, 4, none⟩), .func (.func gh) #[] lbh] w fun e w' => e = .returned (.int .i64 (ldN (fun y => !q y) L)) ∧ Ext w w' := by
  obtain ⟨W1, hW1⟩ : ∃ W1, W1 = (w.alloc (.cells #[.pointer (some ⟨p, 4, none⟩)] 205)).alloc (.cells #[.func (.func gh) #[] lbh] 170) := ⟨_, rfl⟩
  have hX1 : Ext w W1 := by rw [hW1]; exact ((Ext.refl w).alloc _).alloc _
  have hE : Ob W1 w.heap.size 205 [.pointer (some ⟨p, 4, none⟩)] := by rw [hW1]; exact (Ob.new w _ [_]).alloc _
  have hH : Ob W1 (w.heap.size + 1) 170 [.func (.func gh) #[] lbh] := by rw [hW1]; have := Ob.new (w.alloc (.cells #[.pointer (some ⟨p, 4, none⟩)] 205)) 170 [.func (.func gh) #[] lbh]; rwa [World.size_alloc] at this
  have hP1 := hP.ext hX1
  have hdn : ∀ i j, i ≤ j → j < L.length → fAt q L i = true → fAt q L j = true := fun i j hij hj h1 => by
    obtain ⟨y, hy⟩ : ∃ y, L[j]? = some y := ⟨_, List.getElem?_eq_getElem hj⟩
    obtain ⟨x, hx⟩ : ∃ x, L[i]? = some x := ⟨_, List.getElem?_eq_getElem (by omega)⟩
    unfold fAt at h1 ⊢
    rw [hx] at h1
    rw [hy]
    simp only at h1 ⊢
    by_cases e : i = j
    · subst e; rw [hx] at hy; cases hy; exact h1
    · obtain ⟨hi', ex⟩ := List.getElem?_eq_some_iff.1 hx
      obtain ⟨hj', ey⟩ := List.getElem?_eq_some_iff.1 hy
      have := List.pairwise_iff_getElem.1 hd i j hi' hj' (by omega)
      rw [ex, ey] at this
      cases h2 : q y
      · simp [h2, h1] at this
      · rfl
  have hs := hide (search_c 199 #[.pointer (some ⟨w.heap.size + 1, 0, none⟩), .pointer (some ⟨w.heap.size, 0, none⟩)] L.length hL (fAt q L) hdn W1 (enters_of Tryz.func199 (by kernel_rfl) rfl)
    (fun w' hX i hi => pah1_c gh lbh q w.heap.size (w.heap.size + 1) eg w' (hP1.ext hX) (hE.ext hX) (hH.ext hX) (fun w2 hX2 y hy => hh w2 (hX1.trans (hX.trans hX2)) y hy) i hi hL))
  have c4 := hP.ob.cell 4 rfl
  haveI : In p w := ⟨hP.ob.lt⟩
  obtain ⟨A, cap, rfl⟩ := own_form hP.own
  have hX1h := hide hX1
  replace hW1 := hide hW1
  clear hP hP1 hE hH hh hdn hX1
  go_enter Tryz.func145, Tryz.ntmps145
  go_wp2_with fail
  rw [← hW1.out]
  refine hs.out.mono ?_
  rintro ee w2 ⟨r, rfl, hr, hX2⟩
  replace hr := hide (fst_ld hd hr)
  replace hX2 := hide hX2
  go_wp2_with fail
  go_returns
  exact ⟨by rw [hr.out]; rfl, hX1h.out.trans hX2.out⟩
set_option maxHeartbeats 1000000 in
theorem ppl1_c (x y : Pb) (bx : Nat) (w : World) (hx : Evb w x) (hy : Evb w y) (hb : Ob w bx 103 [pp x.2.1]) :
    Calls Tryz.prog 202 #[pp y.2.1, .pointer (some ⟨bx, 0, none⟩)] w fun e w' => e = .returned (.bool (!befB y x)) ∧ Ext w w' := by
  have b0 := hb.cell 0 rfl
  have hc := hide (byEnd_c y x w hy hx)
  have hn := byP_neg (p := y) (q := x)
  clear hx hy hb
  generalize byP y x = R at *
  cases hB : befB y x
  · have h0 : 0 ≤ R := by rw [hB] at hn; rcases Int.lt_or_le R 0 with h | h; exact absurd (hn.1 h) (by decide); exact h
    have hd : decide (0 ≤ R) = true := decide_eq_true h0
    clear hn hB
    go_enter Tryz.func202, Tryz.ntmps202
    go_wp2_with (go_at_call 203; (with_reducible refine seq_gw hc.out ?_); intro g)
    go_returns
    exact ⟨by first | rfl | simp [h0], g.grown⟩
  · have h0 : ¬ 0 ≤ R := by have := hn.2 hB; omega
    have hd : decide (0 ≤ R) = false := decide_eq_false h0
    clear hn hB
    go_enter Tryz.func202, Tryz.ntmps202
    go_wp2_with (go_at_call 203; (with_reducible refine seq_gw hc.out ?_); intro g)
    go_returns
    exact ⟨by first | rfl | simp [h0], g.grown⟩
set_option maxHeartbeats 2000000 in
theorem pplace_c (x : Pb) (w : World) (hP : Pst w base p sv c ser mb u L) (hs : Srt L) (hx : Evb w x) (hL : L.length ≤ 1048576) :
    Calls Tryz.prog 152 #[.pointer (some ⟨p, 4, none⟩), pp x.2.1] w fun e w' => e = .returned (.int .i64 (plN L x)) ∧ Ext w w' := by
  obtain ⟨W1, hW1⟩ : ∃ W1, W1 = w.alloc (.cells #[pp x.2.1] 103) := ⟨_, rfl⟩
  have hX1 : Ext w W1 := by rw [hW1]; exact (Ext.refl w).alloc _
  have hB : Ob W1 w.heap.size 103 [pp x.2.1] := by rw [hW1]; exact Ob.new w _ [_]
  have hsd : Down (fun y => !(!befB y x)) L := by have := srt_down hs x; simpa only [Bool.not_not] using this
  have ha := hide (pahead_c 202 #[.pointer (some ⟨w.heap.size, 0, none⟩)] (fun y => !befB y x) (enters_of Tryz.func202 (by kernel_rfl) rfl) hsd W1 (hP.ext hX1)
    (fun w' hX y hy => ppl1_c x y w.heap.size w' ((hx.ext hX1).ext hX) ((hP.evs y hy).ext (hX1.trans hX)) (hB.ext hX)) hL)
  rw [show ldN (fun y => !(!befB y x)) L = plN L x by unfold plN; simp only [Bool.not_not]] at ha
  have hX1h := hide hX1
  replace hW1 := hide hW1
  clear hP hB hX1 hsd
  generalize plN L x = N at *
  go_enter Tryz.func152, Tryz.ntmps152
  go_wp2_with fail
  rw [← hW1.out]
  refine seq_gw ha.out ?_
  intro g
  go_wp2_with fail
  go_returns
  exact ⟨rfl, hX1h.out.trans g.grown⟩
theorem pcut1_c (t : Int) (y : Pb) (bt : Nat) (w : World) (hy : Evb w y) (hb : Ob w bt 3 [.int .i64 t]) :
    Calls Tryz.prog 146 #[pp y.2.1, .pointer (some ⟨bt, 0, none⟩)] w fun e w' => e = .returned (.bool (decide (t < pTo y))) ∧ Ext w w' := by
  have b0 := hb.cell 0 rfl
  have a4 := Ob.cell hy 4 rfl
  haveI : In y.2.1 w := ⟨Ob.lt hy⟩
  haveI : In bt w := ⟨hb.lt⟩
  clear hy hb
  go_enter Tryz.func146, Tryz.ntmps146
  go_wp2_with fail
  refine wp_region_gw (by kernel_rfl) (by kernel_rfl) ?_
  repeat (go_big_quiet_step (fail))
  refine wpQuiet_nil ?_
  intro g
  go_wp2_with fail
  go_returns
  exact ⟨by first | rfl | simp, g.grown⟩
end
end Go.Proofs.YtajelkkiijdegaaGreat
set_option linter.unusedVariables false
set_option linter.unusedSimpArgs false
namespace Go.Proofs.YtajelkkiijdegaaGreat
open Go.RowKit

/-- Each operation waits for earlier ones alone. -/
def acycB (ops : Array Oper) : Bool := (List.range ops.size).all fun i => match ops[i]? with
  | some o => o.after.all fun e => !Region.binds .any e || decide (e.on < i)
  | none => true
def dstsOf (ops : Array Oper) : List Tmp := ops.toList.filterMap (·.dst)
/-- No two operations write one slot, and all slots are there. -/
def dstsB (ops : Array Oper) (n : Nat) : Bool := (dstsOf ops).all (fun d => decide (d < n)) && (List.range ops.size).all fun i => (List.range ops.size).all fun j =>
  i == j || match ops[i]?, ops[j]? with
    | some o, some p => (match o.dst, p.dst with | some d, some c => d != c | _, _ => true)
    | _, _ => true
def depB (ops : Array Oper) (i j : Nat) : Bool := match ops[i]? with
  | some o => o.after.any fun e => Region.binds .any e && e.on == j
  | none => false

def cntF : List Bool → Nat
  | [] => 0
  | b :: r => (if b then 0 else 1) + cntF r
theorem cntF_set : ∀ (l : List Bool) (i : Nat), l[i]? = some false → cntF (l.set i true) + 1 = cntF l
  | b :: r, 0, h => by simp at h; subst h; simp [cntF]; omega
  | b :: r, i + 1, h => by have := cntF_set r i (by simpa using h); simp only [List.set_cons_succ, cntF]; omega
theorem cntF_rep (n : Nat) : cntF (List.replicate n false) = n := by induction n with
  | zero => rfl
  | succ n ih => simp [List.replicate_succ, cntF, ih]; omega

theorem getD_some {l : Array Bool} {i : Nat} {d : Bool} (h : i < l.size) : l[i]? = some (l.getD i d) := by
  simp [Array.getD, h]

section
variable {P : Program} {ops : Array Oper} {Φ : Nat → Value → World → Prop} {Q : Exit → Act → World → Prop} {a : Act} {W : World}

/-- What holds of the frame b and the world w behind the listed operations. -/
structure RInv (ops : Array Oper) (Φ : Nat → Value → World → Prop) (a : Act) (W : World) (listed : Array Bool) (b : Act) (w : World) : Prop where
  ext : Ext W w
  defers : b.defers = a.defers
  size : b.tmps.size = a.tmps.size
  len : listed.size = ops.size
  else_ : ∀ t, t ∉ dstsOf ops → b.tmps.getD t undef = a.tmps.getD t undef
  fact : ∀ j o d, ops[j]? = some o → listed.getD j false = true → o.dst = some d → Φ j (b.tmps.getD d undef) w

/-- What an operation finds. -/
structure RAt (ops : Array Oper) (Φ : Nat → Value → World → Prop) (a : Act) (W : World) (i : Nat) (b : Act) (w : World) : Prop where
  ext : Ext W w
  defers : b.defers = a.defers
  size : b.tmps.size = a.tmps.size
  else_ : ∀ t, t ∉ dstsOf ops → b.tmps.getD t undef = a.tmps.getD t undef
  dep : ∀ j o d, depB ops i j = true → ops[j]? = some o → o.dst = some d → Φ j (b.tmps.getD d undef) w

/-- What an operation must do. -/
def RGood (P : Program) (ops : Array Oper) (Φ : Nat → Value → World → Prop) (Q : Exit → Act → World → Prop) (i : Nat) (o : Oper) (b : Act) (w : World) : Prop :=
  (Region.wanted o (yielded ops b.tmps) = true ∧ o.wp P b w (fun b' w' => ∃ v, b' = b.put o.dst v ∧ Φ i v w' ∧ Ext w w') Q) ∨ (Region.wanted o (yielded ops b.tmps) = false ∧ Φ i undef w)

theorem all_listed (hB : acycB ops = true) {listed : Array Bool} (hl : listed.size = ops.size) (hr : Region.ready .any ops listed = []) : ∀ j, j < ops.size → listed.getD j false = true := by
  intro j
  induction j using Nat.strongRecOn with
  | ind j ih =>
    intro hj
    cases h : listed.getD j false with
    | true => rfl
    | false =>
      exfalso
      have hjl : j < listed.size := by omega
      have ho : ops[j]? = some ops[j] := Array.getElem?_eq_getElem hj
      have hacy := List.all_eq_true.1 hB j (List.mem_range.2 hj)
      rw [ho] at hacy
      have : j ∈ Region.ready .any ops listed := mem_ready.2 ⟨by
        have e1 := getD_some (l := listed) (d := false) hjl
        have e2 := getD_some (l := listed) (d := true) hjl
        rw [e1] at e2; rw [← Option.some.inj e2]; exact h, _, ho, fun e he hb => by
        have h2 := Array.all_eq_true_iff_forall_mem.1 hacy e he
        simp [hb] at h2
        exact ih e.on h2 (by omega)⟩
      rw [hr] at this; cases this

theorem put_other {b : Act} {dst : Option Tmp} {v : Value} {t : Nat} (h : dst ≠ some t) : (b.put dst v).tmps.getD t undef = b.tmps.getD t undef := by
  cases dst with
  | none => rfl
  | some d =>
    have : d ≠ t := fun e => h (by rw [e])
    simp [Act.put, Array.getD_eq_getD_getElem?, Array.getElem?_setIfInBounds, this]
theorem put_same {b : Act} {d : Nat} {v : Value} (h : d < b.tmps.size) : (b.put (some d) v).tmps.getD d undef = v := by
  simp [Act.put, Array.getD_eq_getD_getElem?, Array.getElem?_setIfInBounds, h]
theorem put_defers {b : Act} {dst : Option Tmp} {v : Value} : (b.put dst v).defers = b.defers := by cases dst <;> rfl
theorem put_size {b : Act} {dst : Option Tmp} {v : Value} : (b.put dst v).tmps.size = b.tmps.size := by cases dst <;> simp [Act.put]

/-- A frame that differs in the slots D alone. -/
theorem frame_puts {b a : Act} {D : List Tmp} (hd : b.defers = a.defers) (hz : b.tmps.size = a.tmps.size) (he : ∀ t, t ∉ D → b.tmps.getD t undef = a.tmps.getD t undef) :
    b = D.foldl (fun f d => f.put (some d) (b.tmps.getD d undef)) a := by
  have key : ∀ (D : List Tmp) (f : Act), f.defers = b.defers → f.tmps.size = b.tmps.size → (∀ t, t ∉ D → b.tmps.getD t undef = f.tmps.getD t undef) → b = D.foldl (fun f d => f.put (some d) (b.tmps.getD d undef)) f := by
    intro D
    induction D with
    | nil =>
      intro f h1 h2 h3
      obtain ⟨bt, bd⟩ := b
      obtain ⟨ft, fd⟩ := f
      simp only at h1 h2 h3
      subst h1
      have : bt = ft := by
        apply Array.ext
        · exact h2.symm
        · intro i hi hj
          have := h3 i (by simp)
          rw [Array.getD_eq_getD_getElem?, Array.getD_eq_getD_getElem?, Array.getElem?_eq_getElem hi, Array.getElem?_eq_getElem hj] at this
          simpa using this
      rw [this]; rfl
    | cons d D ih =>
      intro f h1 h2 h3
      refine ih _ (put_defers.trans h1) (put_size.trans h2) fun t ht => ?_
      by_cases htd : t = d
      · subst htd
        by_cases hlt : t < f.tmps.size
        · rw [put_same hlt]
        · have e1 : ∀ (c : Act), ¬ t < c.tmps.size → c.tmps.getD t undef = undef := fun c h => by simp [Array.getD, h]
          rw [e1 b (by rw [← h2]; exact hlt), e1 _ (by rw [put_size]; exact hlt)]
      · rw [put_other (fun e => htd (Option.some.inj e).symm)]
        exact h3 t (by simp [htd, ht])
  exact key D a hd.symm hz.symm he
/-- All operations of a list, each by itself. -/
def RSteps (S : Nat → Oper → Prop) : Nat → List Oper → Prop
  | _, [] => True
  | k, o :: r => S k o ∧ RSteps S (k + 1) r
theorem RSteps.get {S : Nat → Oper → Prop} : ∀ (k : Nat) (l : List Oper), RSteps S k l → ∀ j o, l[j]? = some o → S (k + j) o
  | k, [], _, j, o, h => by simp at h
  | k, p :: r, ⟨h0, h1⟩, 0, o, h => by simp at h; subst h; exact h0
  | k, p :: r, ⟨h0, h1⟩, j + 1, o, h => by
    have := RSteps.get (k + 1) r h1 j o (by simpa using h)
    rwa [show k + 1 + j = k + (j + 1) by omega] at this

/-- What may be known of a value: it stays known in grown worlds. -/
inductive Fact where
  | is (v : Value)
  | bytes (l : List UInt8)
  | st (p : Value → World → Prop) (h : ∀ v w w', p v w → Ext w w' → p v w')
  | any
def Fact.holds : Fact → Value → World → Prop
  | .is u, v, _ => v = u
  | .bytes l, v, w => By w [] v l
  | .st p _, v, w => p v w
  | .any, _, _ => True
theorem Fact.stays (f : Fact) (v : Value) (w w' : World) (h : f.holds v w) (hx : Ext w w') : f.holds v w' := by
  cases f with
  | is u => exact h
  | bytes l => exact Sl.ext h hx
  | st p hp => exact hp v w w' h hx
  | any => trivial
def factsOf (L : List Fact) (i : Nat) (v : Value) (w : World) : Prop := (L.getD i .any).holds v w

section
variable {i : Nat} {o : Oper} {b : Act} {w : World}
theorem good_run {v : Value} (hg : Region.wanted o (yielded ops b.tmps) = true) (hr : (execOp b.eval o).run P w = .ok (.value v) w) (hΦ : Φ i v w) : RGood P ops Φ Q i o b w :=
  .inl ⟨hg, by unfold Oper.wp; rw [hr]; exact ⟨v, rfl, hΦ, Ext.refl w⟩⟩
theorem good_move {x : Operand} (hg : Region.wanted o (yielded ops b.tmps) = true) (ho : o.op = .move x) (hΦ : Φ i (b.eval x) w) : RGood P ops Φ Q i o b w :=
  good_run hg (by simp [execOp, ho, Sem.run_pure]) hΦ
theorem exec_binOp {ρ : Operand → Value} {op : BinOp} {t ty : TypeId} {x y : Operand} {u1 u2 v : Value} (ho : o.op = .binOp op t x y ty) (hx : ρ x = u1) (hy : ρ y = u2)
    (hg : (eqGuard op t x y u1 u2).run P w = .ok () w) (hr : (binOp op t u1 u2).run P w = .ok v w) : (execOp ρ o).run P w = .ok (.value v) w := by
  simp only [execOp, ho, hx, hy, Sem.run_bind, hg, hr, Sem.run_pure, Result.andThen_ok]
theorem good_bin {op : BinOp} {t ty : TypeId} {x y : Operand} {u1 u2 v : Value} (hg : Region.wanted o (yielded ops b.tmps) = true) (ho : o.op = .binOp op t x y ty) (hx : b.eval x = u1) (hy : b.eval y = u2)
    (he : (eqGuard op t x y u1 u2).run P w = .ok () w) (hr : (binOp op t u1 u2).run P w = .ok v w) (hΦ : Φ i v w) : RGood P ops Φ Q i o b w :=
  good_run hg (exec_binOp ho hx hy he hr) hΦ
theorem wanted_none (hg : o.guard = none) : Region.wanted o (yielded ops b.tmps) = true := by unfold Region.wanted; rw [hg]
theorem enters {f : FuncId} {fn : Func} {c : Code} (hf : P.funcs[f]? = some fn) (hname : (fn.name == "runtime.NumGoroutine") = false) (hb : fn.body = some c) : ∀ args w, (callFunc f args).run P w = .ok (.enter f args) w := by
  intro args w
  have h1 : fn.name ≠ "runtime.NumGoroutine" := by simpa using hname
  simp [callFunc, hf, h1, hb, mark]
theorem exec_nilCheck {ρ : Operand → Value} {x : Operand} {ad : Addr} (ho : o.op = .nilCheck x) (hx : ρ x = .pointer (some ad)) : (execOp ρ o).run P w = .ok (.value (.pointer (some ad))) w := by simp [execOp, ho, hx, go_sem]
theorem good_nilCheck {x : Operand} {ad : Addr} (hg : Region.wanted o (yielded ops b.tmps) = true) (ho : o.op = .nilCheck x) (hx : b.eval x = .pointer (some ad)) (hΦ : Φ i (.pointer (some ad)) w) : RGood P ops Φ Q i o b w :=
  good_run hg (exec_nilCheck ho hx) hΦ
theorem exec_field {ρ : Operand → Value} {t : TypeId} {x : Operand} {k : Nat} {u v : Value} (ho : o.op = .fieldAddr t x k) (hx : ρ x = u) (hr : (Instr.fieldAt t u k).run P w = .ok v w) : (execOp ρ o).run P w = .ok (.value v) w := by
  simp only [execOp, ho, hx, Sem.run_bind, hr, Sem.run_pure, Result.andThen_ok]
theorem good_field {t : TypeId} {x : Operand} {k : Nat} {u v : Value} (hg : Region.wanted o (yielded ops b.tmps) = true) (ho : o.op = .fieldAddr t x k) (hx : b.eval x = u) (hr : (Instr.fieldAt t u k).run P w = .ok v w) (hΦ : Φ i v w) : RGood P ops Φ Q i o b w :=
  good_run hg (exec_field ho hx hr) hΦ
theorem exec_index {ρ : Operand → Value} {t : TypeId} {x y : Operand} {u u' v : Value} (ho : o.op = .indexAddr t x y) (hx : ρ x = u) (hy : ρ y = u') (hr : (Instr.indexAt t u u').run P w = .ok v w) : (execOp ρ o).run P w = .ok (.value v) w := by
  simp only [execOp, ho, hx, hy, Sem.run_bind, hr, Sem.run_pure, Result.andThen_ok]
theorem good_index {t : TypeId} {x y : Operand} {u u' v : Value} (hg : Region.wanted o (yielded ops b.tmps) = true) (ho : o.op = .indexAddr t x y) (hx : b.eval x = u) (hy : b.eval y = u') (hr : (Instr.indexAt t u u').run P w = .ok v w) (hΦ : Φ i v w) : RGood P ops Φ Q i o b w :=
  good_run hg (exec_index ho hx hy hr) hΦ
theorem exec_load {ρ : Operand → Value} {t : TypeId} {x : Operand} {u v : Value} (ho : o.op = .load t x) (hx : ρ x = u) (hr : (Instr.loadAt t u).run P w = .ok v w) : (execOp ρ o).run P w = .ok (.value v) w := by
  simp only [execOp, ho, hx, Sem.run_bind, hr, Sem.run_pure, Result.andThen_ok]
theorem good_load {t : TypeId} {x : Operand} {u v : Value} (hg : Region.wanted o (yielded ops b.tmps) = true) (ho : o.op = .load t x) (hx : b.eval x = u) (hr : (Instr.loadAt t u).run P w = .ok v w) (hΦ : Φ i v w) : RGood P ops Φ Q i o b w :=
  good_run hg (exec_load ho hx hr) hΦ
theorem good_call {f : FuncId} {xs : Array Operand} {ats : Array TypeId} (hg : Region.wanted o (yielded ops b.tmps) = true) (ho : o.op = .call { callee := .value (.func f), args := xs, argTypes := ats })
    (he : ∀ args w, (callFunc f args).run P w = .ok (.enter f args) w) (hc : Calls P f (xs.map b.eval) w fun e w' => ∃ v, e = .returned v ∧ Φ i v w' ∧ Ext w w') : RGood P ops Φ Q i o b w := by
  refine .inl ⟨hg, ?_⟩
  unfold Oper.wp
  have : (execOp b.eval o).run P w = .ok (.enter f (xs.map b.eval)) w := by
    simp [execOp, ho, resolve, Act.eval, Deferred.ofValue, invoke, he, go_sem]
  rw [this]
  exact hc.mono fun e w' ⟨v, he, h1, h2⟩ => by subst he; exact ⟨v, rfl, h1, h2⟩
end
end
end Go.Proofs.YtajelkkiijdegaaGreat
