/-
  A helper of ours: no claim of its own. XRowD again, of Compare alone, over the worlds of XDrGw.
-/
import Derived.Test.YtajelkkiijdegaaGreatRowE
namespace Go.Proofs.YtajelkkiijdegaaGreat.Dr
open Go.RowKit
/-- What was there is as it was; there may be more; nor is a draw undone. -/
structure Ext (W w : World) : Prop where
  ext : Go.Proofs.YtajelkkiijdegaaGreat.Ext W w
  drawn : W.drawn ≤ w.drawn
instance {W w : World} : Coe (Ext W w) (Go.Proofs.YtajelkkiijdegaaGreat.Ext W w) := ⟨Ext.ext⟩
theorem Ext.refl (W : World) : Ext W W := ⟨Go.Proofs.YtajelkkiijdegaaGreat.Ext.refl W, Nat.le_refl _⟩
theorem Ext.trans {a b c : World} (h : Ext a b) (k : Ext b c) : Ext a c := ⟨h.ext.trans k.ext, Nat.le_trans h.drawn k.drawn⟩
theorem Ext.alloc {W w : World} (h : Ext W w) (o : Obj) : Ext W (w.alloc o) := ⟨h.ext.alloc o, h.drawn⟩
theorem Ext.drew {W w : World} (h : Ext W w) : Ext W w.drew := ⟨h.ext.drew, Nat.le_succ_of_le h.drawn⟩
theorem Ext.drewN {W w : World} (h : Ext W w) (n : Nat) : Ext W (w.drewN n) := ⟨h.ext.drewN n, Nat.le_trans h.drawn (Nat.le_add_right _ _)⟩
theorem Ext.setCell {W w : World} (h : Ext W w) {p : Addr} (hp : W.heap.size ≤ p.block) (u : Value) : Ext W (w.setCell p u) := ⟨h.ext.setCell hp u, by rw [World.drawn_setCell]; exact h.drawn⟩
structure GW (W : World) where
  val : World
  grown : Ext W val
instance GW.some (W : World) : Nonempty (GW W) := ⟨⟨W, Ext.refl W⟩⟩
section
variable {W w : World} {n : Nat}
instance In.gw (g : GW W) [h : In n W] : In n g.val := ⟨Nat.lt_of_lt_of_le h.lt (Below.size g.grown.ext)⟩
instance Upto.gw (g : GW W) [h : Upto n W] : Upto n g.val := ⟨Nat.le_trans h.le (Below.size g.grown.ext)⟩
variable (g : GW W)
theorem GW.cell {b o : Nat} [h : In b W] : g.val.cell? ⟨b, o, none⟩ = W.cell? ⟨b, o, none⟩ := Below.cell (p := ⟨b, o, none⟩) g.grown.ext h.lt
theorem GW.frozen {b o : Nat} [h : In b W] : g.val.frozen? ⟨b, o, none⟩ = W.frozen? ⟨b, o, none⟩ := Below.frozen (p := ⟨b, o, none⟩) g.grown.ext h.lt
theorem GW.size : W.heap.size ≤ g.val.heap.size := Below.size g.grown.ext
end
theorem cell_later {w wr : World} (h : Ext w wr) {b o : Nat} {u : Value} (hc : w.cell? ⟨b, o, none⟩ = some u) : wr.cell? ⟨b, o, none⟩ = some u := Go.Proofs.YtajelkkiijdegaaGreat.cell_later h.ext hc
/-- A contract under which the world grows, met in a class of grown worlds. -/
theorem quiet_gw {P : Program} {f : FuncId} {args : Array Value} {W : World} {g : GW W} {v : Value} (h : Calls P f args g.val fun e w' => e = .returned v ∧ Ext g.val w') :
    Calls P f args g.val fun e w'' => e = .returned v ∧ ∃ k : GW W, w'' = k.val :=
  h.mono fun _ _ ⟨he, hm⟩ => ⟨he, ⟨_, g.grown.trans hm⟩, rfl⟩
theorem seq_gw {P : Program} {f : FuncId} {args : Array Value} {w : World} {v : Value} {R : Ending → World → Prop} (h : Calls P f args w fun e w' => e = .returned v ∧ Ext w w')
    (hr : ∀ g : GW w, R (.returned v) g.val) : Calls P f args w R :=
  h.mono fun _ w' ⟨he, hm⟩ => by subst he; exact hr ⟨w', hm⟩
theorem seq_gw' {P : Program} {f : FuncId} {args : Array Value} {W : World} {g : GW W} {v : Value} {R : Ending → World → Prop} (h : Calls P f args g.val fun e w' => e = .returned v ∧ Ext g.val w')
    (hr : ∀ k : GW W, R (.returned v) k.val) : Calls P f args g.val R :=
  h.mono fun _ w' ⟨he, hm⟩ => by subst he; exact hr ⟨w', g.grown.trans hm⟩

section
variable {P : Program} {ops : Array Oper} {md : Region.Mode} {C : World → Prop}
/-- A region that draws: its first n operations yield one value each in every grown world; what is behind them comes in the text's order. -/
theorem wp_region_gw_tail {id : Nat} {Q : Exit → Act → World → Prop} {a : Act} {w : World} {l : List Oper} (n : Nat) (hm : P.follows .mixedOrders = true) (hB : Region.lexTailB .any l.toArray n = true)
    (h : wpQuiet P l.toArray (fun w' => ∃ g : GW w, w' = g.val) (fun a' => ∀ g : GW w, wpList P l.toArray Q (l.drop n) a' g.val) (l.take n) a) : (Code.region id l.toArray true).wp P Q a w := by
  simp only [Region.lexTailB, Bool.and_eq_true, decide_eq_true_eq] at hB
  obtain ⟨⟨⟨⟨hsel, hn⟩, hs⟩, hc⟩, hlex⟩ := hB
  have hn' : n < l.length := by simpa using hn
  have htl : (l.take n).length = n := by simp; omega
  have hdl : (l.drop n).length = l.toArray.size - n := by simp
  have inv0 : HeadInv .any l.toArray n (Array.replicate l.toArray.size false) :=
    ⟨by simp, fun j oj _ hl => (by rw [getD_replicate_false] at hl; cases hl), fun t _ ht => getD_in (by simpa using ht) (getD_replicate_false _ _)⟩
  have H := wpAnyG_lex (md := .any) (g := l.toArray.size - n) hsel hs hc hn (l.take n) 0 _ a (fun j hj => by
    have hj' : j < n := by rw [htl] at hj; exact hj
    simp [hj']) (by simpa using htl) inv0 (by rw [htl]; exact hlex) h
  refine wp_region_any hm ?_
  have := wpAny_of_headG (Q' := Q) (g := l.toArray.size - n) (fun listed a' w' hw' hL => by
    obtain ⟨g, rfl⟩ := hw'
    have := wpAny_of_seq (md := .any) (Q' := Q) (l.drop n) n listed a' g.val (fun j => by simp [List.getElem?_drop]) (by rw [hdl]; exact hL.1) (hL.2 g)
    rwa [hdl] at this) _ _ _ { w with drawn := w.drawn + 1 } ⟨⟨_, (Ext.refl w).drew⟩, rfl⟩ H
  rw [htl, show n + (l.toArray.size - n) = l.toArray.size by omega] at this
  exact this

/-- A region that draws, all of whose operations yield one value each in every grown world. -/
theorem wp_region_gw {id : Nat} {Q : Exit → Act → World → Prop} {a : Act} {w : World} {l : List Oper} (hm : P.follows .mixedOrders = true) (hB : Region.lexB .any l.toArray = true)
    (h : wpQuiet P l.toArray (fun w' => ∃ g : GW w, w' = g.val) (fun a' => ∀ g : GW w, Q .normal a' g.val) l a) : (Code.region id l.toArray true).wp P Q a w := by
  refine wp_region_quiet (C := fun w' => ∃ g : GW w, w' = g.val) hm hB ⟨⟨_, (Ext.refl w).drew⟩, rfl⟩ ?_
  have e : (fun a' => ∀ g : GW w, Q .normal a' g.val) = fun a' => ∀ w', (∃ g : GW w, w' = g.val) → Q .normal a' w' := by
    funext a'; exact propext ⟨fun h w' ⟨g, hg⟩ => hg ▸ h g, fun h g => h _ ⟨g, rfl⟩⟩
  rw [e] at h
  simpa using h
end
end Go.Proofs.YtajelkkiijdegaaGreat.Dr
set_option linter.unusedVariables false
set_option linter.unusedSimpArgs false
namespace Go.Proofs.YtajelkkiijdegaaGreat.Dr
open Go.RowKit
attribute [local go_sem] GW.cell GW.frozen In.eq_true In.le_true In.ne In.ne' In.ne_add In.ne_add' In.lt_add Upto.le_true Upto.le_add Upto.lt_add
set_option maxHeartbeats 1000000 in
theorem inner_num (n : Int) (s : ByteArray) (hs : s.size = 0) (w : World) : Calls Tryz.prog 216 #[val 1 n s] w fun e w' => e = .returned (.tuple #[.iface 291 (.int .i64 n), .bool true]) ∧ Ext w w' := by
  have he := empty_yes hs
  go_enter Tryz.func216, Tryz.ntmps216
  go_wp2_with fail
  go_returns
  exact ⟨rfl, (Ext.refl w).alloc _⟩
set_option maxHeartbeats 1000000 in
theorem inner_text (s : ByteArray) (hs : s.size ≤ 64) (w : World) : Calls Tryz.prog 216 #[val 2 0 s] w fun e w' => e = .returned (.tuple #[.iface 292 (.string s), .bool true]) ∧ Ext w w' := by
  have hi : (s.size : Int) ≤ 64 := by omega
  go_enter Tryz.func216, Tryz.ntmps216
  go_wp2_with fail
  go_returns
  exact ⟨rfl, (Ext.refl w).alloc _⟩
set_option maxHeartbeats 1000000 in
theorem inner_none (k n : Int) (s : ByteArray) (h : (k = 1 ∧ s.size ≠ 0) ∨ (k ≠ 1 ∧ k ≠ 2) ∨ (k = 2 ∧ n ≠ 0) ∨ (k = 2 ∧ n = 0 ∧ 64 < s.size)) (w : World) : Calls Tryz.prog 216 #[val k n s] w fun e w' => e = .returned (.tuple #[.nilIface, .bool false]) ∧ Ext w w' := by
  rcases h with ⟨rfl, h⟩ | ⟨h1, h2⟩ | ⟨rfl, h⟩ | ⟨rfl, rfl, h⟩
  · have he := empty_no h
    go_enter Tryz.func216, Tryz.ntmps216
    go_wp2_with fail
    go_returns
    exact ⟨rfl, (Ext.refl w).alloc _⟩
  · have e1 : (k == 1) = false := by simpa using h1
    have e2 : (k == 2) = false := by simpa using h2
    go_enter Tryz.func216, Tryz.ntmps216
    go_wp2_with fail
    go_returns
    exact ⟨rfl, (Ext.refl w).alloc _⟩
  · have e1 : (n == 0) = false := by simpa using h
    go_enter Tryz.func216, Tryz.ntmps216
    go_wp2_with fail
    go_returns
    exact ⟨rfl, (Ext.refl w).alloc _⟩
  · have hi : (64 : Int) < (s.size : Int) := by omega
    go_enter Tryz.func216, Tryz.ntmps216
    go_wp2_with fail
    go_returns
    exact ⟨rfl, (Ext.refl w).alloc _⟩
set_option maxHeartbeats 1000000 in
theorem may_c (k n : Int) (s : ByteArray) (w : World) : Calls Tryz.prog 160 #[val k n s] w fun e w' => e = .returned (.bool (mayB k n s)) ∧ Ext w w' := by
  rcases may_cases (k := k) (n := n) (s := s) with ⟨rfl, h⟩ | ⟨rfl, rfl, h⟩ | ⟨hm, h⟩
  · rw [may_num h]
    have hi := hide (fun w => inner_num n s h w)
    clear h
    go_enter Tryz.func160, Tryz.ntmps160
    go_wp2_with (go_at_call 216; refine seq_gw (hi.out _) ?_; intro g)
    go_returns
    exact ⟨rfl, ((Ext.refl w).alloc _).trans g.grown⟩
  · rw [may_text h]
    have hi := hide (fun w => inner_text s h w)
    clear h
    go_enter Tryz.func160, Tryz.ntmps160
    go_wp2_with (go_at_call 216; refine seq_gw (hi.out _) ?_; intro g)
    go_returns
    exact ⟨rfl, ((Ext.refl w).alloc _).trans g.grown⟩
  · rw [hm]
    have hi := hide (fun w => inner_none k n s h w)
    clear h hm
    go_enter Tryz.func160, Tryz.ntmps160
    go_wp2_with (go_at_call 216; refine seq_gw (hi.out _) ?_; intro g)
    go_returns
    exact ⟨rfl, ((Ext.refl w).alloc _).trans g.grown⟩
end Go.Proofs.YtajelkkiijdegaaGreat.Dr
set_option linter.unusedVariables false
set_option linter.unusedSimpArgs false
namespace Go.Proofs.YtajelkkiijdegaaGreat.Dr
open Go.RowKit
attribute [local go_sem] GW.cell GW.frozen In.eq_true In.le_true In.ne In.ne' In.ne_add In.ne_add' In.lt_add Upto.le_true Upto.le_add Upto.lt_add
end Go.Proofs.YtajelkkiijdegaaGreat.Dr
set_option linter.unusedVariables false
set_option linter.unusedSimpArgs false
namespace Go.Proofs.YtajelkkiijdegaaGreat.Dr
open Go.RowKit
attribute [local go_sem] GW.cell GW.frozen In.eq_true In.le_true In.ne In.ne' In.ne_add In.ne_add' In.lt_add Upto.le_true Upto.le_add Upto.lt_add
set_option maxHeartbeats 1000000 in
theorem isNone_c (x : Vl) (w : World) : Calls Tryz.prog 105 #[val x.1 x.2.1 x.2.2] w fun e w' => e = .returned (.bool (!may x)) ∧ Ext w w' := by
  have hm := hide (fun w => may_c x.1 x.2.1 x.2.2 w)
  have e : mayB x.1 x.2.1 x.2.2 = may x := rfl
  rw [e] at hm
  generalize may x = m at *
  obtain ⟨k, n, s⟩ := x
  clear e
  go_enter Tryz.func105, Tryz.ntmps105
  go_wp2_with (go_at_call 160; with_reducible refine seq_gw (hm.out _) ?_; intro g)
  go_returns
  exact ⟨rfl, ((Ext.refl w).alloc _).trans g.grown⟩
set_option maxHeartbeats 2000000 in
theorem indexFunc_c (l : List Vl) (v : Value) (w : World) (h : Rw w [] v l) : Calls Tryz.prog 159 #[v, .func (.func 105) #[] #[]] w fun e w' => e = .returned (.int .i64 (idxF 0 l)) ∧ Ext w w' := by
  obtain ⟨A, cap, rfl, hl, hm, hat⟩ := rw_form h
  unfold maxLen at hm
  replace hat := hide hat
  clear h
  obtain ⟨R, hR⟩ : ∃ R, R = idxF 0 l := ⟨_, rfl⟩
  rw [← hR]
  replace hR := hide hR
  go_enter Tryz.func159, Tryz.ntmps159
  go_wp2_with fail
  go_loopg [8] l.length (fun gh i wr => ∃ (k : Nat), i = .int .i64 k ∧ k + gh = l.length ∧ Hid (R = idxF k (l.drop k)) ∧ Ext w wr)
  case atStart => exact ⟨0, rfl, by omega, by simpa using hR, Ext.refl w⟩
  case round =>
    obtain ⟨k, rfl, hk, hRk, hX⟩ := hrel
    clear hR
    by_cases hlt : k < l.length
    · obtain ⟨x, hx⟩ : ∃ x, l[k]? = some x := ⟨_, List.getElem?_eq_getElem hlt⟩
      obtain ⟨b, o, rfl, -, hb, c0, c1, c2⟩ := hat.out k x hx
      have k0 := cell_later hX c0
      have k1 := cell_later hX c1
      have k2 := cell_later hX c2
      have hbr : b < wr.heap.size := block_lt_of_cell k0
      have hin := hide (fun w => isNone_c x w)
      have hR2 := hRk.out
      rw [drop_cons hx] at hR2
      simp only [idxF] at hR2
      replace hR2 := hide hR2
      obtain ⟨xk, xn, xs⟩ := x
      clear c0 c1 c2 hat hx
      cases hmx : may (xk, xn, xs)
      · rw [hmx] at hin hR2
        replace hmx := hide hmx
        go_wp2_with (go_at_call 105; (with_reducible refine seq_gw (hin.out _) ?_); intro g)
        go_returns
        exact ⟨by rw [hR2.out]; rfl, hX.trans g.grown⟩
      · rw [hmx] at hin hR2
        replace hmx := hide hmx
        go_wp2_with (go_at_call 105; (with_reducible refine seq_gw (hin.out _) ?_); intro g)
        go_roundg (l.length - (k + 1))
        case measure => omega
        case rel => exact ⟨k + 1, by go_num, by omega, hR2, hX.trans g.grown⟩
    · have hk' : k = l.length := by omega
      have hge : (l.length : Int) ≤ k := by omega
      have hR2 := hRk.out
      rw [hk', List.drop_length] at hR2
      replace hR2 := hide hR2
      replace hk' := hide hk'
      go_wp2_with fail
      go_returns
      exact ⟨by rw [hR2.out]; rfl, hX⟩
set_option maxHeartbeats 1000000 in
theorem containsFunc_c (l : List Vl) (v : Value) (w : World) (h : Rw w [] v l) : Calls Tryz.prog 104 #[v, .func (.func 105) #[] #[]] w fun e w' => e = .returned (.bool (!l.all may)) ∧ Ext w w' := by
  have hc := hide (indexFunc_c l v w h)
  have e := hide (idxF_ge 0 l)
  generalize idxF 0 l = z at *
  generalize l.all may = m at *
  clear h
  go_enter Tryz.func104, Tryz.ntmps104
  go_wp2_with (go_at_call 159; (with_reducible refine seq_gw hc.out ?_); intro g)
  go_returns
  exact ⟨by rw [← e.out]; rfl, g.grown⟩
set_option maxHeartbeats 1000000 in
theorem rowMay_c (l : List Vl) (v : Value) (w : World) (h : Rw w [] v l) : Calls Tryz.prog 55 #[v] w fun e w' => e = .returned (.bool (mayR l)) ∧ Ext w w' := by
  have hc := hide (containsFunc_c l v w h)
  obtain ⟨A, cap, rfl, hl, hm, -⟩ := rw_form h
  clear h
  by_cases h8 : l.length ≤ 8
  · have e : mayR l = l.all may := by unfold mayR; rw [decide_eq_true h8, Bool.true_and]
    rw [e]
    generalize l.all may = m at *
    have h8' : (l.length : Int) ≤ 8 := by omega
    clear e
    go_enter Tryz.func55, Tryz.ntmps55
    go_wp2_with (go_at_call 104; (with_reducible refine seq_gw hc.out ?_); intro g)
    go_returns
    exact ⟨by simp, g.grown⟩
  · have e : mayR l = false := by unfold mayR; rw [decide_eq_false h8, Bool.false_and]
    rw [e]
    have h8' : decide ((l.length : Int) ≤ 8) = false := by rw [decide_eq_false_iff_not]; omega
    clear e h8
    go_enter Tryz.func55, Tryz.ntmps55
    go_wp2_with fail
    go_returns
    exact ⟨rfl, Ext.refl w⟩
end Go.Proofs.YtajelkkiijdegaaGreat.Dr
set_option linter.unusedVariables false
set_option linter.unusedSimpArgs false
namespace Go.Proofs.YtajelkkiijdegaaGreat.Dr
open Go.RowKit
attribute [local go_sem] GW.cell GW.frozen In.eq_true In.le_true In.ne In.ne' In.ne_add In.ne_add' In.lt_add Upto.le_true Upto.le_add Upto.lt_add
theorem nanI_c (n : Int) (w : World) : Calls Tryz.prog 158 #[.int .i64 n] w fun e w' => e = .returned (.bool false) ∧ Ext w w' := by
  go_enter Tryz.func158, Tryz.ntmps158
  go_wp2_with fail
  go_returns
  exact ⟨rfl, Ext.refl w⟩
set_option maxHeartbeats 1000000 in
theorem cmpInt_c (n m : Int) (w : World) : Calls Tryz.prog 102 #[.int .i64 n, .int .i64 m] w fun e w' => e = .returned (.int .i64 (cmpN n m)) ∧ Ext w w' := by
  obtain ⟨r, hr⟩ : ∃ r, r = cmpN n m := ⟨_, rfl⟩
  rw [← hr]
  unfold cmpN at hr
  by_cases h1 : n < m
  · rw [if_pos h1] at hr
    subst hr
    go_enter Tryz.func102, Tryz.ntmps102
    go_wp2_with (go_at_call 158; (first | (with_reducible refine seq_gw' (nanI_c _ _) ?_) | (with_reducible refine seq_gw (nanI_c _ _) ?_)); intro g)
    go_returns
    exact ⟨rfl, g.grown⟩
  · by_cases h2 : m < n
    · rw [if_neg h1, if_pos h2] at hr
      subst hr
      go_enter Tryz.func102, Tryz.ntmps102
      go_wp2_with (go_at_call 158; (first | (with_reducible refine seq_gw' (nanI_c _ _) ?_) | (with_reducible refine seq_gw (nanI_c _ _) ?_)); intro g)
      go_returns
      exact ⟨rfl, g.grown⟩
    · rw [if_neg h1, if_neg h2] at hr
      subst hr
      have e : n = m := by omega
      subst e
      go_enter Tryz.func102, Tryz.ntmps102
      go_wp2_with (go_at_call 158; (first | (with_reducible refine seq_gw' (nanI_c _ _) ?_) | (with_reducible refine seq_gw (nanI_c _ _) ?_)); intro g)
      go_returns
      exact ⟨rfl, g.grown⟩
section
variable {l m : List Vl} {v u : Value} {w : World}
end
end Go.Proofs.YtajelkkiijdegaaGreat.Dr
set_option linter.unusedVariables false
set_option linter.unusedSimpArgs false
namespace Go.Proofs.YtajelkkiijdegaaGreat.Dr
open Go.RowKit
attribute [local go_sem] GW.cell GW.frozen In.eq_true In.le_true In.ne In.ne' In.ne_add In.ne_add' In.lt_add Upto.le_true Upto.le_add Upto.lt_add
section
variable {l m : List Vl} {v u : Value} {w : World}
end
end Go.Proofs.YtajelkkiijdegaaGreat.Dr
