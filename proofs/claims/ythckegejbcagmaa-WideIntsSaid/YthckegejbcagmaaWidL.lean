/-
  A helper of ours: no claim of its own. Layer 23 (wide): what the code's functions return.
-/
import Derived.Test.YthckegejbcagmaaWidV
import Derived.Test.YthckegejbcagmaaWidS
import Derived.Test.YthckegejbcagmaaMem
import Derived.Test.YthckegejbcagmaaBits
import Derived.Test.YthckegejbcagmaaReg2
import Derived.Test.YthckegejbcagmaaReg3
import Derived.Test.YthckegejbcagmaaShelf
import Derived.Laws.Externs
import Derived.Handy
import Derived.BigQuiet
import Derived.Deep.LoopGhost
set_option linter.unusedVariables false
set_option linter.unusedSimpArgs false
namespace Go.Proofs.Ythckegejbcagmaa
open Go.RowKit
attribute [local go_sem] GW.cell GW.frozen In.eq_true In.le_true In.ne In.ne' In.ne_add In.ne_add' In.lt_add Upto.le_true Upto.le_add Upto.lt_add
set_option maxHeartbeats 4000000 in
set_option maxRecDepth 100000 in
theorem widLive_c (w : World) : Calls Try.prog 15 #[] w fun e w' => e = .returned (.bool true) ∧ Ext w w' := by
  have h1 := hide (fun w' => wof_c (-5) (by omega) w')
  have h2 := hide (fun w' => wof_c 3 (by omega) w')
  have h3 := hide (fun w' => wadd_c (-5) 3 (by unfold InW; omega) (by unfold InW; omega) w')
  rw [show (-5 : Int) + 3 = -2 by omega, okW_in (show InW (-2) by unfold InW; omega), erW_in (show InW (-2) by unfold InW; omega)] at h3
  have h4 := hide (fun w' => wint_c (-2) w')
  rw [if_pos (show InI (-2) by unfold InI; omega), if_pos (show InI (-2) by unfold InI; omega)] at h4
  have h5 := hide (fun w' => wmul_c (-9223372036854775808) (-9223372036854775808) (by omega) (by omega) w')
  have h6 := hide (fun w' => wof_c (-1) (by omega) w')
  have h7 := hide (fun w' => wof_c 0 (by omega) w')
  have h8 := hide (fun w' => wcompare_c (-1) 0 w')
  rw [show cmW (-1) 0 = -1 by unfold cmW; rw [if_pos (by omega)]] at h8
  have e1 : hiW (-9223372036854775808 * -9223372036854775808) = 4611686018427387904 := by unfold hiW; omega
  have e2 : loW (-9223372036854775808 * -9223372036854775808) = 0 := by unfold loW; omega
  unfold wv at h5
  rw [e1, e2] at h5
  clear e1 e2
  go_enter Try.func15, Try.ntmps15
  go_wp2_with (first | (go_at_call 22; first | ((with_reducible refine seq_gw' (h1.out _) ?_); intro g) | ((with_reducible refine seq_gw (h1.out _) ?_); intro g)) | (go_at_call 22; first | ((with_reducible refine seq_gw' (h2.out _) ?_); intro g) | ((with_reducible refine seq_gw (h2.out _) ?_); intro g)) | (go_at_call 22; first | ((with_reducible refine seq_gw' (h6.out _) ?_); intro g) | ((with_reducible refine seq_gw (h6.out _) ?_); intro g)) | (go_at_call 22; first | ((with_reducible refine seq_gw' (h7.out _) ?_); intro g) | ((with_reducible refine seq_gw (h7.out _) ?_); intro g)) | (go_at_call 11; first | ((with_reducible refine seq_gw' (h3.out _) ?_); intro g) | ((with_reducible refine seq_gw (h3.out _) ?_); intro g)) | (go_at_call 17; first | ((with_reducible refine seq_gw' (h4.out _) ?_); intro g) | ((with_reducible refine seq_gw (h4.out _) ?_); intro g)) | (go_at_call 16; first | ((with_reducible refine seq_gw' (h5.out _) ?_); intro g) | ((with_reducible refine seq_gw (h5.out _) ?_); intro g)) | (go_at_call 23; first | ((with_reducible refine seq_gw' (h8.out _) ?_); intro g) | ((with_reducible refine seq_gw (h8.out _) ?_); intro g)))
  go_returns
  refine ⟨by first | rfl | simp, ?_⟩
  repeat (first | exact Ext.refl _ | with_reducible assumption | refine Ext.alloc ?_ _ | refine Ext.drew ?_ | refine Ext.drewN ?_ _ | refine ext_gw ?_ _ | refine Ext.setCell ?_ (by first | (simp; done) | (simp [Upto.le_true, Upto.le_add]; done) | (simp; omega)) _)
end Go.Proofs.Ythckegejbcagmaa
