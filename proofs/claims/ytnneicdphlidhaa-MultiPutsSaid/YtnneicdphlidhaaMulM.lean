/-
  A helper of ours: no claim of its own. Layer 24 (multi): the first thing and the last, by the code.
-/
import Derived.Test.YtnneicdphlidhaaMulL
set_option linter.unusedVariables false
set_option linter.unusedSimpArgs false
namespace Go.Proofs.Ytnneicdphlidhaa
open Go.RowKit
attribute [local go_sem] GW.cell GW.frozen In.eq_true In.le_true In.ne In.ne' In.ne_add In.ne_add' In.lt_add Upto.le_true Upto.le_add Upto.lt_add
theorem mleast_c (base b : Nat) (v : Value) (l : List Tg) (c : Int) (w : World) (hm : Mu w base b v l c) (hc : 0 ≤ c ∧ c ≤ 1048576) (hx : ∀ x ∈ l, 0 ≤ x.2 ∧ x.2 ≤ 1048576) :
    Calls Try.prog 19 #[.pointer (some ⟨b, 0, none⟩)] w fun e w' => e = .returned (.tuple #[.int .i64 (nthR 0 l c).1, .bool (nthR 0 l c).2]) ∧ Ext w w' := by
  have hn := hide (mnth_c 0 base b v l c w hm hc hx)
  generalize (nthR 0 l c).1 = x at *
  generalize (nthR 0 l c).2 = y at *
  clear hm hx
  go_enter Try.func19, Try.ntmps19
  go_wp2_with (go_at_call 14; (with_reducible refine seq_gw hn.out ?_); intro g1)
  go_returns
  exact ⟨rfl, g1.grown⟩
/-- The last thing. -/
def lastT (l : List Tg) (c : Int) : Int × Bool := if c = 0 then (0, false) else match l.getLast? with | some p => (p.1, true) | none => (0, false)
set_option maxHeartbeats 4000000 in
set_option maxRecDepth 100000 in
theorem mmost_c (base b : Nat) (v : Value) (l : List Tg) (c : Int) (w : World) (hm : Mu w base b v l c) (hl : l.length ≤ 1048576) (hne : ¬ c = 0 → l ≠ []) :
    Calls Try.prog 20 #[.pointer (some ⟨b, 0, none⟩)] w fun e w' => e = .returned (.tuple #[.int .i64 (lastT l c).1, .bool (lastT l c).2]) ∧ Ext w w' := by
  have hcnt := hide (mcount_c l base b v c w hm)
  have m1 := hm.ob.cell 1 rfl
  have ml := hm.ob.lt
  haveI : In b w := ⟨ml⟩
  unfold lastT
  by_cases h0 : c = 0
  · rw [if_pos h0]
    subst h0
    clear hm hne m1
    go_enter Try.func20, Try.ntmps20
    go_wp2_with (go_at_call 16; (with_reducible refine seq_gw hcnt.out ?_); intro g1)
    go_returns
    exact ⟨rfl, g1.grown⟩
  · rw [if_neg h0]
    have hl0 := hne h0
    obtain ⟨m, hm1⟩ : ∃ m, l.length = m + 1 := ⟨l.length - 1, by have := List.length_pos_iff.2 hl0; omega⟩
    obtain ⟨p, hp⟩ : ∃ p, l[m]? = some p := ⟨_, List.getElem?_eq_getElem (by omega)⟩
    have hlast : l.getLast? = some p := by rw [List.getLast?_eq_getElem?, hm1]; exact hp
    rw [hlast]
    obtain ⟨g, cap, rfl, hgl, c0, c1⟩ := hm.at hp
    haveI : In g w := ⟨hgl⟩
    rw [hm1] at m1
    have hmI : (m : Int) ≤ 1048576 := by omega
    obtain ⟨pk, pn⟩ := p
    simp only at c0 c1
    clear hm hne hp hlast hl0 hm1 hl c1
    go_enter Try.func20, Try.ntmps20
    go_wp2_with (go_at_call 16; (with_reducible refine seq_gw hcnt.out ?_); intro g1)
    refine wp_region_gw (by kernel_rfl) (by kernel_rfl) ?_
    repeat (go_big_quiet_step (fail))
    refine wpQuiet_nil ?_
    intro g2
    go_wp2_with fail
    go_returns
    exact ⟨rfl, g1.grown.trans g2.grown⟩
end Go.Proofs.Ytnneicdphlidhaa
