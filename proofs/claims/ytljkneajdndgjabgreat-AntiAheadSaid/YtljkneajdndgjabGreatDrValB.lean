/-
  A helper of ours: no claim of its own. XValB again, of Compare alone, over the worlds of XDrGw.
-/
import Derived.Test.YtljkneajdndgjabGreatEdgA
namespace Go.Proofs.YtljkneajdndgjabGreat.Dr
open Go.RowKit
/-- What was there is as it was; there may be more; nor is a draw undone. -/
structure Ext (W w : World) : Prop where
  ext : Go.Proofs.YtljkneajdndgjabGreat.Ext W w
  drawn : W.drawn ≤ w.drawn
instance {W w : World} : Coe (Ext W w) (Go.Proofs.YtljkneajdndgjabGreat.Ext W w) := ⟨Ext.ext⟩
theorem Ext.refl (W : World) : Ext W W := ⟨Go.Proofs.YtljkneajdndgjabGreat.Ext.refl W, Nat.le_refl _⟩
theorem Ext.trans {a b c : World} (h : Ext a b) (k : Ext b c) : Ext a c := ⟨h.ext.trans k.ext, Nat.le_trans h.drawn k.drawn⟩
theorem Ext.alloc {W w : World} (h : Ext W w) (o : Obj) : Ext W (w.alloc o) := ⟨h.ext.alloc o, h.drawn⟩
theorem Ext.drew {W w : World} (h : Ext W w) : Ext W w.drew := ⟨h.ext.drew, Nat.le_succ_of_le h.drawn⟩
theorem Ext.drewN {W w : World} (h : Ext W w) (n : Nat) : Ext W (w.drewN n) := ⟨h.ext.drewN n, Nat.le_trans h.drawn (Nat.le_add_right _ _)⟩
theorem Ext.setCell {W w : World} (h : Ext W w) {p : Addr} (hp : W.heap.size ≤ p.block) (u : Value) : Ext W (w.setCell p u) := ⟨h.ext.setCell hp u, by rw [World.drawn_setCell]; exact h.drawn⟩
structure GW (W : World) where
  val : World
  grown : Ext W val
instance GW.some (W : World) : Nonempty (GW W) := ⟨⟨W, Ext.refl W⟩⟩
section
variable {W w : World} {n : Nat}
instance In.gw (g : GW W) [h : In n W] : In n g.val := ⟨Nat.lt_of_lt_of_le h.lt (Below.size g.grown.ext)⟩
instance Upto.gw (g : GW W) [h : Upto n W] : Upto n g.val := ⟨Nat.le_trans h.le (Below.size g.grown.ext)⟩
variable (g : GW W)
theorem GW.cell {b o : Nat} [h : In b W] : g.val.cell? ⟨b, o, none⟩ = W.cell? ⟨b, o, none⟩ := Below.cell (p := ⟨b, o, none⟩) g.grown.ext h.lt
theorem GW.frozen {b o : Nat} [h : In b W] : g.val.frozen? ⟨b, o, none⟩ = W.frozen? ⟨b, o, none⟩ := Below.frozen (p := ⟨b, o, none⟩) g.grown.ext h.lt
theorem GW.size : W.heap.size ≤ g.val.heap.size := Below.size g.grown.ext
end
theorem cell_later {w wr : World} (h : Ext w wr) {b o : Nat} {u : Value} (hc : w.cell? ⟨b, o, none⟩ = some u) : wr.cell? ⟨b, o, none⟩ = some u := Go.Proofs.YtljkneajdndgjabGreat.cell_later h.ext hc
/-- A contract under which the world grows, met in a class of grown worlds. -/
theorem quiet_gw {P : Program} {f : FuncId} {args : Array Value} {W : World} {g : GW W} {v : Value} (h : Calls P f args g.val fun e w' => e = .returned v ∧ Ext g.val w') :
    Calls P f args g.val fun e w'' => e = .returned v ∧ ∃ k : GW W, w'' = k.val :=
  h.mono fun _ _ ⟨he, hm⟩ => ⟨he, ⟨_, g.grown.trans hm⟩, rfl⟩
theorem seq_gw {P : Program} {f : FuncId} {args : Array Value} {w : World} {v : Value} {R : Ending → World → Prop} (h : Calls P f args w fun e w' => e = .returned v ∧ Ext w w')
    (hr : ∀ g : GW w, R (.returned v) g.val) : Calls P f args w R :=
  h.mono fun _ w' ⟨he, hm⟩ => by subst he; exact hr ⟨w', hm⟩
theorem seq_gw' {P : Program} {f : FuncId} {args : Array Value} {W : World} {g : GW W} {v : Value} {R : Ending → World → Prop} (h : Calls P f args g.val fun e w' => e = .returned v ∧ Ext g.val w')
    (hr : ∀ k : GW W, R (.returned v) k.val) : Calls P f args g.val R :=
  h.mono fun _ w' ⟨he, hm⟩ => by subst he; exact hr ⟨w', g.grown.trans hm⟩

section
variable {P : Program} {ops : Array Oper} {md : Region.Mode} {C : World → Prop}
/-- A region that draws, all of whose operations yield one value each in every grown world. -/
theorem wp_region_gw {id : Nat} {Q : Exit → Act → World → Prop} {a : Act} {w : World} {l : List Oper} (hm : P.follows .mixedOrders = true) (hB : Region.lexB .any l.toArray = true)
    (h : wpQuiet P l.toArray (fun w' => ∃ g : GW w, w' = g.val) (fun a' => ∀ g : GW w, Q .normal a' g.val) l a) : (Code.region id l.toArray true).wp P Q a w := by
  refine wp_region_quiet (C := fun w' => ∃ g : GW w, w' = g.val) hm hB ⟨⟨_, (Ext.refl w).drew⟩, rfl⟩ ?_
  have e : (fun a' => ∀ g : GW w, Q .normal a' g.val) = fun a' => ∀ w', (∃ g : GW w, w' = g.val) → Q .normal a' w' := by
    funext a'; exact propext ⟨fun h w' ⟨g, hg⟩ => hg ▸ h g, fun h g => h _ ⟨g, rfl⟩⟩
  rw [e] at h
  simpa using h
end
end Go.Proofs.YtljkneajdndgjabGreat.Dr
set_option linter.unusedVariables false
set_option linter.unusedSimpArgs false
namespace Go.Proofs.YtljkneajdndgjabGreat.Dr
open Go.RowKit
attribute [local go_sem] GW.cell GW.frozen In.eq_true In.le_true In.ne In.ne' In.ne_add In.ne_add' In.lt_add Upto.le_true Upto.le_add Upto.lt_add
set_option maxHeartbeats 1000000 in
theorem inner_num (n : Int) (s : ByteArray) (hs : s.size = 0) (w : World) : Calls Tryz.prog 165 #[val 1 n s] w fun e w' => e = .returned (.tuple #[.iface 211 (.int .i64 n), .bool true]) ∧ Ext w w' := by
  have he := empty_yes hs
  go_enter Tryz.func165, Tryz.ntmps165
  go_wp2_with fail
  go_returns
  exact ⟨rfl, (Ext.refl w).alloc _⟩
set_option maxHeartbeats 1000000 in
theorem inner_text (s : ByteArray) (hs : s.size ≤ 64) (w : World) : Calls Tryz.prog 165 #[val 2 0 s] w fun e w' => e = .returned (.tuple #[.iface 212 (.string s), .bool true]) ∧ Ext w w' := by
  have hi : (s.size : Int) ≤ 64 := by omega
  go_enter Tryz.func165, Tryz.ntmps165
  go_wp2_with fail
  go_returns
  exact ⟨rfl, (Ext.refl w).alloc _⟩
set_option maxHeartbeats 1000000 in
theorem inner_none (k n : Int) (s : ByteArray) (h : (k = 1 ∧ s.size ≠ 0) ∨ (k ≠ 1 ∧ k ≠ 2) ∨ (k = 2 ∧ n ≠ 0) ∨ (k = 2 ∧ n = 0 ∧ 64 < s.size)) (w : World) : Calls Tryz.prog 165 #[val k n s] w fun e w' => e = .returned (.tuple #[.nilIface, .bool false]) ∧ Ext w w' := by
  rcases h with ⟨rfl, h⟩ | ⟨h1, h2⟩ | ⟨rfl, h⟩ | ⟨rfl, rfl, h⟩
  · have he := empty_no h
    go_enter Tryz.func165, Tryz.ntmps165
    go_wp2_with fail
    go_returns
    exact ⟨rfl, (Ext.refl w).alloc _⟩
  · have e1 : (k == 1) = false := by simpa using h1
    have e2 : (k == 2) = false := by simpa using h2
    go_enter Tryz.func165, Tryz.ntmps165
    go_wp2_with fail
    go_returns
    exact ⟨rfl, (Ext.refl w).alloc _⟩
  · have e1 : (n == 0) = false := by simpa using h
    go_enter Tryz.func165, Tryz.ntmps165
    go_wp2_with fail
    go_returns
    exact ⟨rfl, (Ext.refl w).alloc _⟩
  · have hi : (64 : Int) < (s.size : Int) := by omega
    go_enter Tryz.func165, Tryz.ntmps165
    go_wp2_with fail
    go_returns
    exact ⟨rfl, (Ext.refl w).alloc _⟩
set_option maxHeartbeats 1000000 in
theorem may_c (k n : Int) (s : ByteArray) (w : World) : Calls Tryz.prog 134 #[val k n s] w fun e w' => e = .returned (.bool (mayB k n s)) ∧ Ext w w' := by
  rcases may_cases (k := k) (n := n) (s := s) with ⟨rfl, h⟩ | ⟨rfl, rfl, h⟩ | ⟨hm, h⟩
  · rw [may_num h]
    have hi := hide (fun w => inner_num n s h w)
    clear h
    go_enter Tryz.func134, Tryz.ntmps134
    go_wp2_with (go_at_call 165; refine seq_gw (hi.out _) ?_; intro g)
    go_returns
    exact ⟨rfl, ((Ext.refl w).alloc _).trans g.grown⟩
  · rw [may_text h]
    have hi := hide (fun w => inner_text s h w)
    clear h
    go_enter Tryz.func134, Tryz.ntmps134
    go_wp2_with (go_at_call 165; refine seq_gw (hi.out _) ?_; intro g)
    go_returns
    exact ⟨rfl, ((Ext.refl w).alloc _).trans g.grown⟩
  · rw [hm]
    have hi := hide (fun w => inner_none k n s h w)
    clear h hm
    go_enter Tryz.func134, Tryz.ntmps134
    go_wp2_with (go_at_call 165; refine seq_gw (hi.out _) ?_; intro g)
    go_returns
    exact ⟨rfl, ((Ext.refl w).alloc _).trans g.grown⟩
theorem vnum_c (n : Int) (w : World) : Calls Tryz.prog 226 #[.int .i64 n] w fun e w' => e = .returned (val 1 n ⟨#[]⟩) ∧ Ext w w' := by
  go_enter Tryz.func226, Tryz.ntmps226
  go_wp2_with fail
  go_returns
  exact ⟨rfl, (Ext.refl w).alloc _⟩
theorem vtext_ok (s : ByteArray) (hs : s.size ≤ 64) (w : World) : Calls Tryz.prog 229 #[.string s] w fun e w' => e = .returned (.tuple #[val 2 0 s, .int .i64 0]) ∧ Ext w w' := by
  have hi : (s.size : Int) ≤ 64 := by omega
  go_enter Tryz.func229, Tryz.ntmps229
  go_wp2_with fail
  go_returns
  exact ⟨rfl, (Ext.refl w).alloc _⟩
end Go.Proofs.YtljkneajdndgjabGreat.Dr
set_option linter.unusedVariables false
set_option linter.unusedSimpArgs false
namespace Go.Proofs.YtljkneajdndgjabGreat.Dr
open Go.RowKit
attribute [local go_sem] GW.cell GW.frozen In.eq_true In.le_true In.ne In.ne' In.ne_add In.ne_add' In.lt_add Upto.le_true Upto.le_add Upto.lt_add
theorem nanN_c (n : Int) (w : World) : Calls Tryz.prog 237 #[.int .i64 n] w fun e w' => e = .returned (.bool false) ∧ Ext w w' := by
  go_enter Tryz.func237, Tryz.ntmps237
  go_wp2_with fail
  go_returns
  exact ⟨rfl, Ext.refl w⟩
theorem nanT_c (s : ByteArray) (w : World) : Calls Tryz.prog 244 #[.string s] w fun e w' => e = .returned (.bool false) ∧ Ext w w' := by
  go_enter Tryz.func244, Tryz.ntmps244
  go_wp2_with fail
  go_returns
  exact ⟨rfl, Ext.refl w⟩
set_option maxHeartbeats 1000000 in
theorem cmpNum_c (n m : Int) (w : World) : Calls Tryz.prog 234 #[.int .i64 n, .int .i64 m] w fun e w' => e = .returned (.int .i64 (cmpN n m)) ∧ Ext w w' := by
  obtain ⟨r, hr⟩ : ∃ r, r = cmpN n m := ⟨_, rfl⟩
  rw [← hr]
  unfold cmpN at hr
  by_cases h1 : n < m
  · rw [if_pos h1] at hr
    subst hr
    go_enter Tryz.func234, Tryz.ntmps234
    go_wp2_with (go_at_call 237; (first | (with_reducible refine seq_gw' (nanN_c _ _) ?_) | (with_reducible refine seq_gw (nanN_c _ _) ?_)); intro g)
    go_returns
    exact ⟨rfl, g.grown⟩
  · by_cases h2 : m < n
    · rw [if_neg h1, if_pos h2] at hr
      subst hr
      go_enter Tryz.func234, Tryz.ntmps234
      go_wp2_with (go_at_call 237; (first | (with_reducible refine seq_gw' (nanN_c _ _) ?_) | (with_reducible refine seq_gw (nanN_c _ _) ?_)); intro g)
      go_returns
      exact ⟨rfl, g.grown⟩
    · rw [if_neg h1, if_neg h2] at hr
      subst hr
      have e : n = m := by omega
      subst e
      go_enter Tryz.func234, Tryz.ntmps234
      go_wp2_with (go_at_call 237; (first | (with_reducible refine seq_gw' (nanN_c _ _) ?_) | (with_reducible refine seq_gw (nanN_c _ _) ?_)); intro g)
      go_returns
      exact ⟨rfl, g.grown⟩
set_option maxHeartbeats 1000000 in
theorem cmpText_c (s t : ByteArray) (w : World) : Calls Tryz.prog 242 #[.string s, .string t] w fun e w' => e = .returned (.int .i64 (cmpL s.data.toList t.data.toList)) ∧ Ext w w' := by
  have key : ∀ r, cmpL s.data.toList t.data.toList = r → Calls Tryz.prog 242 #[.string s, .string t] w fun e w' => e = .returned (.int .i64 r) ∧ Ext w w' := by
    intro r hr
    have hlt := less_iff s.data.toList t.data.toList
    rw [hr, ← Lib.toList_data, ← Lib.toList_data] at hlt
    have heq : (s.toList == t.toList) = decide (r = 0) := by
      have := cmpL_zero s.data.toList t.data.toList
      rw [hr] at this
      rw [Lib.toList_data, Lib.toList_data]
      by_cases h : r = 0
      · simp [h, this.1 h]
      · simp [h]; intro e; exact h (this.2 (by rw [e]))
    rcases cmpL_range s.data.toList t.data.toList with e | e | e <;> rw [hr] at e <;> subst e <;> clear hr
    · replace hlt : Op.bytesLess s.toList t.toList = true := hlt
      clear heq
      go_enter Tryz.func242, Tryz.ntmps242
      go_wp2_with (go_at_call 244; (first | (with_reducible refine seq_gw' (nanT_c _ _) ?_) | (with_reducible refine seq_gw (nanT_c _ _) ?_)); intro g)
      go_returns
      exact ⟨rfl, g.grown⟩
    · replace hlt : Op.bytesLess s.toList t.toList = false := hlt
      replace heq : (s.toList == t.toList) = true := heq
      have hgt : ∀ w, (binOp .gtr 212 (.string s) (.string t)).run Tryz.prog w = .ok (.bool false) w := fun w => by simp [binOp, Op.stringOp, hlt, heq]
      go_enter Tryz.func242, Tryz.ntmps242
      go_wp2_with (go_at_call 244; (first | (with_reducible refine seq_gw' (nanT_c _ _) ?_) | (with_reducible refine seq_gw (nanT_c _ _) ?_)); intro g)
      go_returns
      exact ⟨rfl, g.grown⟩
    · replace hlt : Op.bytesLess s.toList t.toList = false := hlt
      replace heq : (s.toList == t.toList) = false := heq
      have hgt : ∀ w, (binOp .gtr 212 (.string s) (.string t)).run Tryz.prog w = .ok (.bool true) w := fun w => by simp [binOp, Op.stringOp, hlt, heq]
      go_enter Tryz.func242, Tryz.ntmps242
      go_wp2_with (go_at_call 244; (first | (with_reducible refine seq_gw' (nanT_c _ _) ?_) | (with_reducible refine seq_gw (nanT_c _ _) ?_)); intro g)
      go_returns
      exact ⟨rfl, g.grown⟩
  exact key _ rfl
set_option maxHeartbeats 1000000 in
set_option maxRecDepth 100000 in
theorem numNum_c (n m : Int) (w : World) : Calls Tryz.prog 231 #[.int .i64 n, .iface 211 (.int .i64 m)] w fun e w' => e = .returned (.int .i64 (cmpN n m)) ∧ Ext w w' := by
  have hc := hide (fun w => cmpNum_c n m w)
  generalize cmpN n m = r at hc
  have t1 := as_nn m
  have t2 := as_n m
  go_enter Tryz.func231, Tryz.ntmps231
  go_wp2_with (go_at_call 234; refine seq_gw (hc.out _) ?_; intro g)
  go_returns
  exact ⟨rfl, g.grown⟩
set_option maxHeartbeats 1000000 in
set_option maxRecDepth 100000 in
theorem numText_c (n : Int) (t : ByteArray) (w : World) : Calls Tryz.prog 231 #[.int .i64 n, .iface 212 (.string t)] w fun e w' => e = .returned (.int .i64 (-1)) ∧ Ext w w' := by
  have t1 := as_nt t
  go_enter Tryz.func231, Tryz.ntmps231
  go_wp2_with fail
  go_returns
  exact ⟨rfl, Ext.refl w⟩
set_option maxHeartbeats 1000000 in
set_option maxRecDepth 100000 in
theorem textText_c (s t : ByteArray) (w : World) : Calls Tryz.prog 239 #[.string s, .iface 212 (.string t)] w fun e w' => e = .returned (.int .i64 (cmpL s.data.toList t.data.toList)) ∧ Ext w w' := by
  have hc := hide (fun w => cmpText_c s t w)
  generalize cmpL s.data.toList t.data.toList = r at hc
  have t1 := as_tt t
  have t2 := as_t t
  go_enter Tryz.func239, Tryz.ntmps239
  go_wp2_with (go_at_call 242; refine seq_gw (hc.out _) ?_; intro g)
  go_returns
  exact ⟨rfl, g.grown⟩
set_option maxHeartbeats 1000000 in
set_option maxRecDepth 100000 in
theorem textNum_c (s : ByteArray) (m : Int) (w : World) : Calls Tryz.prog 239 #[.string s, .iface 211 (.int .i64 m)] w fun e w' => e = .returned (.int .i64 1) ∧ Ext w w' := by
  have t1 := as_tn m
  go_enter Tryz.func239, Tryz.ntmps239
  go_wp2_with fail
  go_returns
  exact ⟨rfl, Ext.refl w⟩
set_option maxHeartbeats 1000000 in
set_option maxRecDepth 100000 in
theorem cmpNN_c (n m : Int) (s t : ByteArray) (hs : s.size = 0) (ht : t.size = 0) (w : World) : Calls Tryz.prog 142 #[val 1 n s, val 1 m t] w fun e w' => e = .returned (.int .i64 (cmpN n m)) ∧ Ext w w' := by
  have h1 := hide (fun w => inner_num n s hs w)
  have h2 := hide (fun w => inner_num m t ht w)
  have hc := hide (fun w => numNum_c n m w)
  obtain ⟨r, hr⟩ : ∃ r, r = cmpN n m := ⟨_, rfl⟩
  rw [← hr] at hc ⊢
  clear hr
  clear hs ht
  go_enter Tryz.func142, Tryz.ntmps142
  go_wp2_with (first | (go_at_call 165; (first | (with_reducible refine seq_gw' (h2.out _) ?_) | (with_reducible refine seq_gw (h1.out _) ?_)); intro g) | (go_at_call 231; with_reducible refine seq_gw' (hc.out _) ?_; intro g))
  go_returns
  exact ⟨rfl, (((Ext.refl w).alloc _).alloc _).trans g.grown⟩
set_option maxHeartbeats 1000000 in
set_option maxRecDepth 100000 in
theorem cmpNT_c (n : Int) (s t : ByteArray) (hs : s.size = 0) (ht : t.size ≤ 64) (w : World) : Calls Tryz.prog 142 #[val 1 n s, val 2 0 t] w fun e w' => e = .returned (.int .i64 (-1)) ∧ Ext w w' := by
  have h1 := hide (fun w => inner_num n s hs w)
  have h2 := hide (fun w => inner_text t ht w)
  have hc := hide (fun w => numText_c n t w)
  clear hs ht
  go_enter Tryz.func142, Tryz.ntmps142
  go_wp2_with (first | (go_at_call 165; (first | (with_reducible refine seq_gw' (h2.out _) ?_) | (with_reducible refine seq_gw (h1.out _) ?_)); intro g) | (go_at_call 231; with_reducible refine seq_gw' (hc.out _) ?_; intro g))
  go_returns
  exact ⟨rfl, (((Ext.refl w).alloc _).alloc _).trans g.grown⟩
set_option maxHeartbeats 1000000 in
set_option maxRecDepth 100000 in
theorem cmpTN_c (m : Int) (s t : ByteArray) (hs : s.size ≤ 64) (ht : t.size = 0) (w : World) : Calls Tryz.prog 142 #[val 2 0 s, val 1 m t] w fun e w' => e = .returned (.int .i64 (1)) ∧ Ext w w' := by
  have h1 := hide (fun w => inner_text s hs w)
  have h2 := hide (fun w => inner_num m t ht w)
  have hc := hide (fun w => textNum_c s m w)
  clear hs ht
  go_enter Tryz.func142, Tryz.ntmps142
  go_wp2_with (first | (go_at_call 165; (first | (with_reducible refine seq_gw' (h2.out _) ?_) | (with_reducible refine seq_gw (h1.out _) ?_)); intro g) | (go_at_call 239; with_reducible refine seq_gw' (hc.out _) ?_; intro g))
  go_returns
  exact ⟨rfl, (((Ext.refl w).alloc _).alloc _).trans g.grown⟩
set_option maxHeartbeats 1000000 in
set_option maxRecDepth 100000 in
theorem cmpTT_c (s t : ByteArray) (hs : s.size ≤ 64) (ht : t.size ≤ 64) (w : World) : Calls Tryz.prog 142 #[val 2 0 s, val 2 0 t] w fun e w' => e = .returned (.int .i64 (cmpL s.data.toList t.data.toList)) ∧ Ext w w' := by
  have h1 := hide (fun w => inner_text s hs w)
  have h2 := hide (fun w => inner_text t ht w)
  have hc := hide (fun w => textText_c s t w)
  obtain ⟨r, hr⟩ : ∃ r, r = cmpL s.data.toList t.data.toList := ⟨_, rfl⟩
  rw [← hr] at hc ⊢
  clear hr hs ht
  go_enter Tryz.func142, Tryz.ntmps142
  go_wp2_with (first | (go_at_call 165; (first | (with_reducible refine seq_gw' (h2.out _) ?_) | (with_reducible refine seq_gw (h1.out _) ?_)); intro g) | (go_at_call 239; with_reducible refine seq_gw' (hc.out _) ?_; intro g))
  go_returns
  exact ⟨rfl, (((Ext.refl w).alloc _).alloc _).trans g.grown⟩
theorem inner_some {k n : Int} {s : ByteArray} (h : mayB k n s = true) : ∃ v, ∀ w, Calls Tryz.prog 165 #[val k n s] w fun e w' => e = .returned (.tuple #[v, .bool true]) ∧ Ext w w' := by
  rcases may_cases (k := k) (n := n) (s := s) with ⟨rfl, h'⟩ | ⟨rfl, rfl, h'⟩ | ⟨hm, _⟩
  · exact ⟨_, fun w => inner_num n s h' w⟩
  · exact ⟨_, fun w => inner_text s h' w⟩
  · rw [h] at hm; cases hm
theorem inner_no {k n : Int} {s : ByteArray} (h : mayB k n s = false) (w : World) : Calls Tryz.prog 165 #[val k n s] w fun e w' => e = .returned (.tuple #[.nilIface, .bool false]) ∧ Ext w w' := by
  rcases may_cases (k := k) (n := n) (s := s) with ⟨rfl, h'⟩ | ⟨rfl, rfl, h'⟩ | ⟨_, h'⟩
  · rw [may_num h'] at h; cases h
  · rw [may_text h'] at h; cases h
  · exact inner_none k n s h' w
set_option maxHeartbeats 1000000 in
set_option maxRecDepth 100000 in
theorem cmpNo1_c (k n k' m : Int) (s t : ByteArray) (h : mayB k n s = false) (w : World) : Calls Tryz.prog 142 #[val k n s, val k' m t] w fun e w' => e = .returned (.int .i64 0) ∧ Ext w w' := by
  have h1 := hide (fun w => inner_no h w)
  clear h
  go_enter Tryz.func142, Tryz.ntmps142
  go_wp2_with (first | (go_at_call 165; with_reducible refine seq_gw (h1.out _) ?_; intro g))
  go_returns
  exact ⟨rfl, (((Ext.refl w).alloc _).alloc _).trans g.grown⟩
set_option maxHeartbeats 1000000 in
set_option maxRecDepth 100000 in
theorem cmpNo2_c (k n k' m : Int) (s t : ByteArray) (h : mayB k n s = true) (h' : mayB k' m t = false) (w : World) : Calls Tryz.prog 142 #[val k n s, val k' m t] w fun e w' => e = .returned (.int .i64 0) ∧ Ext w w' := by
  obtain ⟨v, h1⟩ := inner_some h
  replace h1 := hide h1
  have h2 := hide (fun w => inner_no h' w)
  clear h h'
  go_enter Tryz.func142, Tryz.ntmps142
  go_wp2_with (first | (go_at_call 165; (first | (with_reducible refine seq_gw' (h2.out _) ?_) | (with_reducible refine seq_gw (h1.out _) ?_)); intro g))
  go_returns
  exact ⟨rfl, (((Ext.refl w).alloc _).alloc _).trans g.grown⟩
/-- How a value stands to another. -/
theorem compare_c (k n k' m : Int) (s t : ByteArray) (w : World) : Calls Tryz.prog 142 #[val k n s, val k' m t] w fun e w' => e = .returned (.int .i64 (cmpV (k, n, s) (k', m, t))) ∧ Ext w w' := by
  unfold cmpV may
  simp only
  rcases may_cases (k := k) (n := n) (s := s) with ⟨rfl, h⟩ | ⟨rfl, rfl, h⟩ | ⟨hm, h⟩ <;> rcases may_cases (k := k') (n := m) (s := t) with ⟨rfl, h'⟩ | ⟨rfl, rfl, h'⟩ | ⟨hm', h'⟩
  · rw [may_num h, may_num h']; exact cmpNN_c n m s t h h' w
  · rw [may_num h, may_text h']; exact cmpNT_c n s t h h' w
  · rw [may_num h, hm']; exact cmpNo2_c _ _ _ _ _ _ (may_num h) hm' w
  · rw [may_text h, may_num h']; exact cmpTN_c m s t h h' w
  · rw [may_text h, may_text h']; exact cmpTT_c s t h h' w
  · rw [may_text h, hm']; exact cmpNo2_c _ _ _ _ _ _ (may_text h) hm' w
  · rw [hm]; exact cmpNo1_c _ _ _ _ _ _ hm w
  · rw [hm]; exact cmpNo1_c _ _ _ _ _ _ hm w
  · rw [hm]; exact cmpNo1_c _ _ _ _ _ _ hm w
end Go.Proofs.YtljkneajdndgjabGreat.Dr
