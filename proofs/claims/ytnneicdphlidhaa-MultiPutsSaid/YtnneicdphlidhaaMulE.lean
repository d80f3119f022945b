/-
  A helper of ours: no claim of its own. Layer 24 (multi): one thing inserted, by the library's Insert.
-/
import Derived.Test.YtnneicdphlidhaaMulD
import Derived.Lib.AppendZerosOnto
import Derived.Lib.Overlaps
import Derived.Laws.Externs
set_option linter.unusedVariables false
set_option linter.unusedSimpArgs false
namespace Go.Proofs.Ytnneicdphlidhaa
open Go.RowKit
attribute [local go_sem] GW.cell GW.frozen In.eq_true In.le_true In.ne In.ne' In.ne_add In.ne_add' In.lt_add Upto.le_true Upto.le_add Upto.lt_add
theorem src_thing (w : World) (xb : Nat) (k c : Int) (hx : Ob w xb 69 [.int .i64 k, .int .i64 c]) : Src Try.prog 2 63 (.slice (some ⟨xb, 0, none⟩) 1 1) 1 [.int .i64 k, .int .i64 c] w := by
  have x0 := hx.cell 0 rfl
  have x1 := hx.cell 1 rfl
  refine Src.ofSlice w Try.underlying63 ⟨xb, 0, none⟩ 1 1 _ rfl (fun j u hj => ?_) (fun v hv => ?_)
  · rw [add_plain, Nat.zero_add]
    match j, hj with
    | 0, hj => cases hj; exact x0
    | 1, hj => cases hj; exact x1
    | j + 2, hj => simp at hj
  · simp at hv
    rcases hv with rfl | rfl <;> rfl
theorem own_from {S : List Nat} {a b : Option Nat} {n : Nat} (hk : b = a ∨ b = some n) (hS : ∀ x, a = some x → x ∈ S) : ∀ x, b = some x → x ∈ S ∨ n ≤ x := by
  intro x hx
  rcases hk with e | e
  · exact .inl (hS x (e ▸ hx))
  · rw [e] at hx; cases hx; exact .inr (Nat.le_refl _)
theorem fr_grown {S : List Nat} {w w' : World} {row : Option Nat} (h : w.grownBy w' row) (hr : ∀ k, row = some k → k ∈ S) : Fr S w w' := (Fr.refl S w).grown h fun k hk => .inl (hr k hk)
set_option maxHeartbeats 4000000 in
set_option maxRecDepth 100000 in
/-- Behind the last one. -/
theorem minsert_end (base xb : Nat) (k c : Int) (v : Value) (l : List Tg) (w : World) (h : w.ownsRow base 69 2 v l.length (tgs l)) (hbase : base ≤ w.heap.size) (hn : l.length ≤ 1048576)
    (hx : Ob w xb 69 [.int .i64 k, .int .i64 c]) (S : List Nat) (hS : ∀ b, v.ownBlock = some b → b ∈ S) :
    Calls Try.prog 43 #[v, .int .i64 (l.length : Nat), .slice (some ⟨xb, 0, none⟩) 1 1] w fun e w' =>
      ∃ v', e = .returned v' ∧ w'.ownsRow base 69 2 v' (l.length + 1) (tgs (l ++ [(k, c)])) ∧ Fr S w w' ∧ ∀ b, v'.ownBlock = some b → b ∈ S ∨ w.heap.size ≤ b := by
  have hsrc := hide (src_thing w xb k c hx)
  have htg : tgs (l ++ [(k, c)]) = tgs l ++ [.int .i64 k, .int .i64 c] := by rw [tgs_app]; rfl
  rw [htg]
  have hm : l.length + 1 ≤ maxLen := by unfold maxLen; omega
  have hby : (l.length + 1) * 16 ≤ 140737488355328 := by omega
  obtain ⟨A, cap, rfl⟩ := own_form h
  have hform : (A = none ∧ l.length = 0 ∧ cap = 0) ∨ ∃ g, A = some ⟨g, 0, none⟩ ∧ l.length ≤ cap ∧ cap ≤ 9223372036854775807 := by
    rcases h.2 with ⟨h', h0⟩ | ⟨g', cap', cur, h', hb, hg, hnc, hcm, hcs, htake⟩
    · simp at h'; exact .inl ⟨h'.1, h0, h'.2.2⟩
    · simp only [Value.slice.injEq] at h'
      obtain ⟨rfl, _, rfl⟩ := h'
      unfold maxLen at hcm
      exact .inr ⟨g', rfl, hnc, by omega⟩
  have hOwn := hide h
  have hSh := hide hS
  clear h hS htg hx
  obtain ⟨n, hnl⟩ : ∃ n, n = l.length := ⟨_, rfl⟩
  obtain ⟨xs, hxs⟩ : ∃ xs, xs = tgs l := ⟨_, rfl⟩
  rw [← hxs] at hOwn ⊢
  rw [← hnl] at hOwn hm hby hform hn ⊢
  clear hxs hnl
  rcases hform with ⟨rfl, rfl, rfl⟩ | ⟨g, rfl, hc1, hc2⟩
  · go_enter Try.func43, Try.ntmps43
    go_wp2_with (at_builtin; refine wpl_app tThing rfl (.tmp 23) (.tmp 24) rfl rfl hOwn.out rfl hsrc.out hm hby hbase ?_; intro v' w' ho hg hk)
    go_returns
    exact ⟨_, rfl, ho, fr_grown hg hSh.out, own_from hk hSh.out⟩
  · have hnI : (n : Int) ≤ 1048576 := by omega
    go_enter Try.func43, Try.ntmps43
    go_wp2_with (at_builtin; refine wpl_app tThing rfl (.tmp 23) (.tmp 24) rfl rfl hOwn.out rfl hsrc.out hm hby hbase ?_; intro v' w' ho hg hk)
    all_goals (go_returns; exact ⟨_, rfl, ho, fr_grown hg hSh.out, own_from hk hSh.out⟩)
end Go.Proofs.Ytnneicdphlidhaa
