/-
  A helper of ours: no claim of its own. Layer 6 (row): rows that are made of rows, on both sides.
-/
import Derived.Test.YtjdbjnpomndfjaaRowA
import Derived.Lib.AppendZerosOnto
import Derived.Lib.LazyBuf
import Derived.WalkLawsBesides
set_option linter.unusedVariables false
set_option linter.unusedSimpArgs false
namespace Go.Proofs.Ytjdbjnpomndfjaa
open Go.RowKit
attribute [local go_sem] GW.cell GW.frozen In.eq_true In.le_true In.ne In.ne' In.ne_add In.ne_add' In.lt_add Upto.le_true Upto.le_add Upto.lt_add
theorem tVal : ElemT Try.prog 64 62 (.agg #[.int .i64 0, .int .i64 0, .string ⟨#[]⟩]) 3 32 := ElemT.mk' Try.underlying64 (by kernel_rfl) rfl (by omega)
theorem own_appR {w : World} {B : Nat} {v : Value} {l m : List Vl} (h : w.ownsRow B 62 3 v (l.length + m.length) (rc l ++ rc m)) : OwnR w B v (l ++ m) := by
  unfold OwnR; rw [List.length_append, rc_append]; exact h
set_option maxHeartbeats 1000000 in
set_option maxRecDepth 100000 in
theorem rowClone_c (l : List Vl) (v : Value) (w : World) (h : Rw w [] v l) (hz : l.length * 32 ≤ 140737488351232) : Calls Try.prog 99 #[v] w fun e w' => ∃ v', e = .returned v' ∧ OwnR w' w.heap.size v' l ∧ Ext w w' := by
  obtain ⟨A, cap, rfl, hl, hm, -⟩ := rw_form h
  have hq := fun w => Lib.run_eql_slice_nil (P := Try.prog) w 64 62 A l.length cap 0 0 Try.underlying64
  cases A with
  | none =>
    have hl0 : l = [] := by
      obtain ⟨A', cap', e, _, _, h3, h4⟩ := h
      rcases h4 with h4 | ⟨b, o, rfl, _⟩
      · have := congrArg List.length h4; rw [rc_length] at this; exact List.eq_nil_of_length_eq_zero (by simp at this; omega)
      · cases e
    subst hl0
    clear h hq
    have hq0 := fun w => Lib.run_eql_slice_nil (P := Try.prog) w 64 62 none 0 cap 0 0 Try.underlying64
    show Calls Try.prog 99 #[.slice none 0 cap] w fun e w' => ∃ v', e = .returned v' ∧ OwnR w' w.heap.size v' [] ∧ Ext w w'
    go_enter Try.func99, Try.ntmps99
    go_wp2_with fail
    go_returns
    exact ⟨_, rfl, World.ownsRow_nil _ _ _ _, Ext.refl w⟩
  | some a =>
    have hlit := hide (World.ownsRow_lit (base := w.heap.size) (e := 62) (size := 3) w #[] 0 (Nat.le_refl _) (by decide) rfl)
    have hv := hide h
    clear h
    go_enter Try.func99, Try.ntmps99
    go_wp2_with (at_builtin; (refine wpl_app tVal rfl (.tmp 5) (.tmp 6) rfl rfl hlit.out rfl (src_sl Try.underlying64 (Sl.ext hv.out ((Ext.refl w).alloc _)) (rc_one _) (by omega)) (by unfold maxLen; omega) (by omega) (by simp) ?_; intro v1 w1 ho1 hg1 _))
    go_returns
    have ho2 : OwnR w1 w.heap.size v1 l := by have := own_appR (l := []) ho1; simpa using this
    exact ⟨_, rfl, ho2, ext_grown ((Ext.refl w).alloc _) hg1 (fun k hk => (hlit.out.lt k hk).1)⟩
set_option maxHeartbeats 1000000 in
theorem rowCopy_c (l : List Vl) (v : Value) (w : World) (h : Rw w [] v l) (hz : l.length * 32 ≤ 140737488351232) : Calls Try.prog 110 #[v] w fun e w' => ∃ v', e = .returned v' ∧ OwnR w' w.heap.size v' l ∧ Ext w w' := by
  have hc := hide (rowClone_c l v w h hz)
  clear h
  go_enter Try.func110, Try.ntmps110
  go_wp2_with (go_at_call 99; refine hc.out.mono ?_; rintro ee w1 ⟨v1, rfl, ho1, hx1⟩)
  go_returns
  exact ⟨_, rfl, ho1, hx1⟩
end Go.Proofs.Ytjdbjnpomndfjaa
