/-
  A helper of ours: no claim of its own. Layer 5 (value): what must be whatever is asked.
-/
import Derived.Test.YthidjngipkelcaaDoorValD
import Derived.Test.YthidjngipkelcaaDoorNumR
set_option linter.unusedVariables false
set_option linter.unusedSimpArgs false
namespace Go.Proofs.YthidjngipkelcaaDoor
open Go.RowKit
attribute [local go_sem] GW.cell GW.frozen In.eq_true In.le_true In.ne In.ne' In.ne_add In.ne_add' In.lt_add Upto.le_true Upto.le_add Upto.lt_add
set_option maxHeartbeats 1000000 in
set_option maxRecDepth 100000 in
theorem showText_c (s : ByteArray) (hs : s.size ≤ 64) (w : World) : Calls Tryd.prog 51 #[val 2 0 s] w fun e w' => e = .returned (.string ⟨(showB s.data.toList).toArray⟩) ∧ Ext w w' := by
  have h1 := hide (fun w => inner_text s hs w)
  have hc := hide (fun w => textShow_c s hs w)
  clear hs
  go_enter Tryd.func51, Tryd.ntmps51
  go_wp2_with (first | (go_at_call 67; with_reducible refine seq_gw (h1.out _) ?_; intro g) | (go_at_call 125; with_reducible refine seq_gw' (hc.out _) ?_; intro g))
  go_returns
  exact ⟨rfl, ((Ext.refl w).alloc _).trans g.grown⟩
theorem live5 : (⟨(showB (⟨#[105, 116, 39, 115]⟩ : ByteArray).data.toList).toArray⟩ : ByteArray) = ⟨#[39, 105, 116, 92, 50, 55, 115, 39]⟩ := by decide +kernel
theorem live6 : cmpV (1, -12, ⟨#[]⟩) (2, 0, ⟨#[105, 116, 39, 115]⟩) = -1 := by decide +kernel
theorem live7 : mayB 1 (-12) ⟨#[]⟩ = true := by decide +kernel
theorem live8 : mayB 0 0 ⟨#[]⟩ = false := by decide +kernel
end Go.Proofs.YthidjngipkelcaaDoor
