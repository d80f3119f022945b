/-
  A helper of ours: no claim of its own. Layer 24 (multi): find, Count, Of by the code.
-/
import Derived.Test.YtnneicdphlidhaaMulB
set_option linter.unusedVariables false
set_option linter.unusedSimpArgs false
namespace Go.Proofs.Ytnneicdphlidhaa
open Go.RowKit
attribute [local go_sem] GW.cell GW.frozen In.eq_true In.le_true In.ne In.ne' In.ne_add In.ne_add' In.lt_add Upto.le_true Upto.le_add Upto.lt_add
set_option maxHeartbeats 4000000 in
set_option maxRecDepth 100000 in
theorem mfind_c (k : Int) (l : List Tg) (hr : RiseT l) (hl : l.length ≤ 1048576) (base b : Nat) (v : Value) (c : Int) (w : World) (hm : Mu w base b v l c) :
    Calls Try.prog 32 #[.pointer (some ⟨b, 0, none⟩), .int .i64 k] w fun e w' => e = .returned (.tuple #[.int .i64 (ltN k l), .int .i64 (ofT k l)]) ∧ Ext w w' := by
  have m1 := hm.ob.cell 1 rfl
  have ml := hm.ob.lt
  haveI : In b w := ⟨ml⟩
  have hB : Ob (w.alloc (.cells #[.pointer (some ⟨b, 0, none⟩)] 24)) w.heap.size 24 [.pointer (some ⟨b, 0, none⟩)] := Ob.new w _ [_]
  have hE : Ext w (w.alloc (.cells #[.pointer (some ⟨b, 0, none⟩)] 24)) := (Ext.refl w).alloc _
  have hs := hide (msearch_c k l hr hl base w.heap.size b v c _ hB (hm.ext hE))
  have cB := hB.cell 0 rfl
  haveI : In w.heap.size (w.alloc (.cells #[.pointer (some ⟨b, 0, none⟩)] 24)) := ⟨hB.lt⟩
  obtain ⟨A, cap, rfl⟩ := own_form hm.own
  have hmh := hide hm
  by_cases hf : fdB k l = true
  · obtain ⟨p, hp⟩ : ∃ p, l[ltN k l]? = some p := by
      unfold fdB at hf
      cases h : l[ltN k l]? with
      | none => rw [h] at hf; cases hf
      | some p => exact ⟨p, rfl⟩
    have ho : ofT k l = p.2 := by unfold ofT; rw [if_pos hf, hp]
    have hlt : ltN k l < l.length := (List.getElem?_eq_some_iff.1 hp).1
    rw [ho]
    rw [hf] at hs
    obtain ⟨g, cap', e1, hgl, c0, c1⟩ := hm.at hp
    cases e1
    haveI : In g w := ⟨hgl⟩
    clear hm hr ho
    generalize ltN k l = n at *
    have hnI : (n : Int) < l.length := by omega
    clear hf
    go_enter Try.func32, Try.ntmps32
    go_wp2_with (go_at_call 40; (with_reducible refine seq_gw (hs.out) ?_); intro g1)
    go_returns
    exact ⟨rfl, hE.trans g1.grown⟩
  · replace hf : fdB k l = false := by simpa using hf
    have ho : ofT k l = 0 := by unfold ofT; rw [hf]; rfl
    rw [ho]
    rw [hf] at hs
    clear hm hr ho
    generalize ltN k l = n at *
    clear hf
    go_enter Try.func32, Try.ntmps32
    go_wp2_with (go_at_call 40; (with_reducible refine seq_gw (hs.out) ?_); intro g1)
    go_returns
    exact ⟨rfl, hE.trans g1.grown⟩
end Go.Proofs.Ytnneicdphlidhaa
