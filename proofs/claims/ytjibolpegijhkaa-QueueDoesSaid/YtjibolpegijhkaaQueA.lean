/-
  A helper of ours: no claim of its own. Layer 15 (queue): a queue in memory; which of two items is ahead; the one ahead of others; two items change places.
-/
import Derived.Test.YtjibolpegijhkaaQueS
import Derived.Test.YtjibolpegijhkaaStepA
import Derived.Test.YtjibolpegijhkaaOwn
set_option linter.unusedVariables false
set_option linter.unusedSimpArgs false
namespace Go.Proofs.Ytjibolpegijhkaa
open Go.RowKit
attribute [local go_sem] GW.cell GW.frozen In.eq_true In.le_true In.ne In.ne' In.ne_add In.ne_add' In.lt_add Upto.le_true Upto.le_add Upto.lt_add
/-- Items as cells. -/
def it1 (x : It) : List Value := [.int .i64 x.1.1, .int .i64 x.1.2, .int .i64 x.2]
def itc (l : List It) : List Value := l.flatMap it1
theorem itc_cons (x : It) (l : List It) : itc (x :: l) = it1 x ++ itc l := by simp [itc]
theorem itc_length (l : List It) : (itc l).length = l.length * 3 := by
  induction l with
  | nil => rfl
  | cons p r ih => rw [itc_cons, List.length_append, ih, List.length_cons]; simp [it1]; omega
theorem itc_append (l m : List It) : itc (l ++ m) = itc l ++ itc m := by simp [itc]
theorem itc_take : ∀ (l : List It) (n : Nat), (itc l).take (n * 3) = itc (l.take n)
  | [], n => by simp [itc]
  | x :: l, 0 => by simp [itc]
  | x :: l, n + 1 => by
    rw [itc_cons, List.take_succ_cons, itc_cons, show (n + 1) * 3 = (it1 x).length + n * 3 by simp [it1]; omega, List.take_length_add_append, itc_take l n]
theorem itc_get : ∀ (l : List It) (i : Nat) (x : It), l[i]? = some x → (itc l)[i * 3]? = some (.int .i64 x.1.1) ∧ (itc l)[i * 3 + 1]? = some (.int .i64 x.1.2) ∧ (itc l)[i * 3 + 2]? = some (.int .i64 x.2)
  | y :: l, 0, x, h => by simp at h; subst h; exact ⟨rfl, rfl, rfl⟩
  | y :: l, i + 1, x, h => by
    have := itc_get l i x (by simpa using h)
    rw [show (i + 1) * 3 = i * 3 + 1 + 1 + 1 by omega, show i * 3 + 1 + 1 + 1 + 1 = i * 3 + 1 + 1 + 1 + 1 from rfl, show i * 3 + 1 + 1 + 1 + 2 = i * 3 + 2 + 1 + 1 + 1 by omega]
    simpa [itc, it1] using this
theorem itc_set : ∀ (l : List It) (i : Nat) (x : It), i < l.length → itc (l.set i x) = (((itc l).set (i * 3) (.int .i64 x.1.1)).set (i * 3 + 1) (.int .i64 x.1.2)).set (i * 3 + 2) (.int .i64 x.2)
  | [], i, x, h => by simp at h
  | a :: r, 0, x, h => by simp [itc, it1]
  | a :: r, i + 1, x, h => by
    have ih := itc_set r i x (by simpa using h)
    rw [List.set_cons_succ, itc_cons, ih, itc_cons]
    rw [show (i + 1) * 3 = i * 3 + 1 + 1 + 1 by omega, show i * 3 + 1 + 1 + 1 + 2 = i * 3 + 2 + 1 + 1 + 1 by omega, show i * 3 + 1 + 1 + 1 + 1 = i * 3 + 1 + 1 + 1 + 1 from rfl]
    simp only [it1, List.cons_append, List.nil_append, List.set_cons_succ]
/-- An item by value. -/
abbrev im (x : It) : Value := .agg #[.int .i64 x.1.1, .int .i64 x.1.2, .int .i64 x.2]
abbrev OwnI (w : World) (B : Nat) (v : Value) (l : List It) : Prop := w.ownsRow B 49 3 v l.length (itc l)
/-- A queue's block: what is ahead, the items, how many were ever put in. -/
def Qb (w : World) (q : Nat) (v : Value) (n : Int) : Prop := Ob w q 47 [.func (.func 8) #[] #[], v, .int .i64 n]
/-- Nothing below B has changed, and of what is newer just blocks whose cells are of one of some types. -/
structure Ft (B : Nat) (Ts : List TypeId) (w w' : World) : Prop where
  os : w'.os = w.os
  tape : w'.tape = w.tape
  output : w'.output = w.output
  size : w.heap.size ≤ w'.heap.size
  block : ∀ k, k < w.heap.size → (k < B ∨ ∀ vs T f, w.heap[k]? = some (.cells vs T f) → T ∉ Ts) → w'.heap[k]? = w.heap[k]?
section
variable {B : Nat} {Ts : List TypeId} {w w' w'' W : World}
theorem Ft.refl (w : World) : Ft B Ts w w := ⟨rfl, rfl, rfl, Nat.le_refl _, fun _ _ _ => rfl⟩
theorem Ft.of_ext (h : Ext w w') : Ft B Ts w w' := ⟨h.os, h.tape, h.output, h.size, fun k hk _ => h.block k hk⟩
theorem Ft.trans (h : Ft B Ts w w') (k : Ft B Ts w' w'') : Ft B Ts w w'' :=
  ⟨k.os.trans h.os, k.tape.trans h.tape, k.output.trans h.output, Nat.le_trans h.size k.size, fun i hi hc => by
    have h1 := h.block i hi hc
    rw [k.block i (Nat.lt_of_lt_of_le hi h.size) (hc.imp id fun hc vs T f e => hc vs T f (by rw [← h1]; exact e)), h1]⟩
theorem Ft.ext (h : Ft B Ts w w') (k : Ext W w) (hB : W.heap.size ≤ B) : Ext W w' :=
  ⟨h.os.trans k.os, h.tape.trans k.tape, h.output.trans k.output, Nat.le_trans k.size h.size, fun i hi => (h.block i (Nat.lt_of_lt_of_le hi k.size) (.inl (by omega))).trans (k.block i hi)⟩
theorem Ft.ob {b : Nat} {T : TypeId} {vs : List Value} (h : Ft B Ts w w') (k : Ob w b T vs) (hT : T ∉ Ts) : Ob w' b T vs :=
  (h.block b k.lt (.inr fun vs' T' f e => by unfold Ob at k; rw [k] at e; injection e with e; injection e with _ e _; rw [← e]; exact hT)).trans k
theorem Ft.own {B' e size n : Nat} {v : Value} {xs : List Value} (h : Ft B Ts w w') (k : w.ownsRow B' e size v n xs) (hT : e ∉ Ts) : w'.ownsRow B' e size v n xs := by
  refine ⟨k.1, k.2.imp id fun ⟨g, cap, cur, e', hb, hg, r⟩ => ⟨g, cap, cur, e', hb, ?_, r⟩⟩
  refine (h.block g (lt_of_block hg) (.inr fun vs' T' f e1 => ?_)).trans hg
  rw [hg] at e1; injection e1 with e1; injection e1 with _ e1 _; rw [← e1]; exact hT
theorem Ft.set {b i : Nat} {T : TypeId} {cur : Array Value} {fz : Nat × Nat} {u : Value} (h : Ft B Ts w w') (hB : B ≤ b) (hb : w'.heap[b]? = some (.cells cur T fz)) (hT : T ∈ Ts) : Ft B Ts w (w'.setCell ⟨b, i, none⟩ u) := by
  refine h.trans ⟨rfl, rfl, rfl, by simp, fun k hk hc => Below.heap_setCell w' _ u k fun e => ?_⟩
  subst e
  rcases hc with hc | hc
  · omega
  · exact hc _ _ _ hb hT
theorem Ft.grown {row : Option Nat} (h : Ft B Ts w w') (hg : w'.grownBy w'' row) (hr : ∀ k, row = some k → B ≤ k ∧ ∃ cur T f, w'.heap[k]? = some (.cells cur T f) ∧ T ∈ Ts) : Ft B Ts w w'' := by
  refine h.trans ⟨hg.os, hg.tape, hg.output, hg.size, fun k hk hc => hg.block k hk fun e => ?_⟩
  obtain ⟨h1, cur, T, f, h2, h3⟩ := hr k e.symm
  rcases hc with hc | hc
  · omega
  · exact hc _ _ _ h2 h3
end
theorem own_typed {w : World} {B e size n : Nat} {v : Value} {xs : List Value} (h : w.ownsRow B e size v n xs) : ∀ k, v.ownBlock = some k → B ≤ k ∧ ∃ cur f, w.heap[k]? = some (.cells cur e f) := by
  intro k hk
  rcases h.2 with ⟨rfl, _⟩ | ⟨g, cap, cur, rfl, hb, hg, _⟩
  · cases hk
  · have : k = g := by simpa [Value.ownBlock] using hk.symm
    subst this
    exact ⟨hb, _, _, hg⟩
theorem item_block {w : World} {B : Nat} {v : Value} {l : List It} (h : OwnI w B v l) (hne : 0 < l.length) : ∃ g cap, v = .slice (some ⟨g, 0, none⟩) l.length cap ∧ B ≤ g ∧ g < w.heap.size ∧ l.length ≤ cap ∧ cap ≤ 9223372036854775807 := by
  rcases h.2 with ⟨_, hz⟩ | ⟨g, cap, cur, rfl, hb, hg, hn, hc, hcs, ht⟩
  · omega
  · unfold maxLen at hc; exact ⟨g, cap, rfl, hb, lt_of_block hg, hn, by omega⟩
/-- The cells of one item. -/
theorem item_cells {w : World} {B g cap : Nat} {l : List It} (h : OwnI w B (.slice (some ⟨g, 0, none⟩) l.length cap) l) {i : Nat} {x : It} (hx : l[i]? = some x) :
    w.cell? ⟨g, i * 3, none⟩ = some (.int .i64 x.1.1) ∧ w.cell? ⟨g, i * 3 + 1, none⟩ = some (.int .i64 x.1.2) ∧ w.cell? ⟨g, i * 3 + 2, none⟩ = some (.int .i64 x.2) := by
  have hi := (List.getElem?_eq_some_iff.1 hx).1
  obtain ⟨h0, h1, h2⟩ := itc_get l i x hx
  exact ⟨(World.ownsRow.cellAt h (i * 3) (by omega)).trans h0, (World.ownsRow.cellAt h (i * 3 + 1) (by omega)).trans h1, (World.ownsRow.cellAt h (i * 3 + 2) (by omega)).trans h2⟩
set_option maxHeartbeats 1000000 in
theorem less_c (x y : Int × Int) (w : World) : Calls Try.prog 8 #[jm x, jm y] w fun e w' => e = .returned (.bool (decide (x.1 < y.1))) ∧ Ext w w' := by
  obtain ⟨a, b⟩ := x
  obtain ⟨c, d⟩ := y
  go_enter Try.func8, Try.ntmps8
  go_wp2_with fail
  go_returns
  exact ⟨rfl, ((Ext.refl w).alloc _).alloc _⟩
set_option maxHeartbeats 4000000 in
set_option maxRecDepth 100000 in
theorem isAhead_c (q : Nat) (v : Value) (n : Int) (a b : It) (w : World) (h : Qb w q v n) : Calls Try.prog 24 #[.pointer (some ⟨q, 0, none⟩), im a, im b] w fun e w' => e = .returned (.bool (isA a b)) ∧ Ext w w' := by
  have q0 := Ob.cell h 0 rfl
  have hlt := Ob.lt h
  haveI : In q w := ⟨hlt⟩
  obtain ⟨⟨aa, an⟩, ak⟩ := a
  obtain ⟨⟨ba, bn⟩, bk⟩ := b
  have hL := hide (fun w => less_c (aa, an) (ba, bn) w)
  have hM := hide (fun w => less_c (ba, bn) (aa, an) w)
  obtain ⟨R, hR⟩ : ∃ R, R = isA ((aa, an), ak) ((ba, bn), bk) := ⟨_, rfl⟩
  rw [← hR]
  unfold isA at hR
  simp only at hR
  clear h
  by_cases h1 : aa < ba
  · have d1 : decide (aa < ba) = true := decide_eq_true h1
    simp only [d1] at hL
    obtain rfl : R = true := by rw [hR, decide_eq_true_iff]; exact .inl h1
    clear hR hM
    replace h1 := hide h1
    go_enter Try.func24, Try.ntmps24
    go_wp2_with fail
    refine wp_region_gw (by kernel_rfl) (by kernel_rfl) ?_
    repeat (go_big_quiet_step ((go_at_call 8; with_reducible exact quiet_gw (hL.out _))))
    refine wpQuiet_nil ?_
    intro g
    go_wp2_with fail
    go_returns
    exact ⟨rfl, (((Ext.refl w).alloc _).alloc _).trans g.grown⟩
  · have d1 : decide (aa < ba) = false := decide_eq_false h1
    simp only [d1] at hL
    by_cases h2 : ak < bk
    · have d2 : decide (ak < bk) = true := decide_eq_true h2
      obtain ⟨m, hm⟩ : ∃ m, m = decide (ba < aa) := ⟨_, rfl⟩
      obtain rfl : R = !m := by
        rw [hR, hm]
        by_cases h3 : ba < aa
        · rw [decide_eq_true h3, decide_eq_false (by omega)]; rfl
        · rw [decide_eq_false h3, decide_eq_true (by omega)]; rfl
      rw [← hm] at hM
      clear hR hm
      replace h1 := hide h1
      replace h2 := hide h2
      go_enter Try.func24, Try.ntmps24
      go_wp2_with fail
      refine wp_region_gw (by kernel_rfl) (by kernel_rfl) ?_
      repeat (go_big_quiet_step ((go_at_call 8; with_reducible exact quiet_gw (hL.out _))))
      refine wpQuiet_nil ?_
      intro g
      go_wp2_with fail
      refine wp_region_gw (by kernel_rfl) (by kernel_rfl) ?_
      repeat (go_big_quiet_step ((go_at_call 8; with_reducible exact quiet_gw (hM.out _))))
      refine wpQuiet_nil ?_
      intro g2
      go_wp2_with fail
      go_returns
      exact ⟨rfl, ((((Ext.refl w).alloc _).alloc _).trans g.grown).trans g2.grown⟩
    · have d2 : decide (ak < bk) = false := decide_eq_false h2
      obtain rfl : R = false := by rw [hR, decide_eq_false_iff_not]; omega
      clear hR hM
      replace h1 := hide h1
      replace h2 := hide h2
      go_enter Try.func24, Try.ntmps24
      go_wp2_with fail
      refine wp_region_gw (by kernel_rfl) (by kernel_rfl) ?_
      repeat (go_big_quiet_step ((go_at_call 8; with_reducible exact quiet_gw (hL.out _))))
      refine wpQuiet_nil ?_
      intro g
      go_wp2_with fail
      refine wp_region_gw (by kernel_rfl) (by kernel_rfl) ?_
      repeat (go_big_quiet_step (fail))
      refine wpQuiet_nil ?_
      intro g2
      go_wp2_with fail
      go_returns
      exact ⟨rfl, ((((Ext.refl w).alloc _).alloc _).trans g.grown).trans g2.grown⟩
end Go.Proofs.Ytjibolpegijhkaa
