/-
  A helper of ours: no claim of its own. Layer 5 (value): what must be whatever is asked.
-/
import Derived.Test.YtpfcmlmljolplaaDoorValD
import Derived.Test.YtpfcmlmljolplaaDoorNumR
set_option linter.unusedVariables false
set_option linter.unusedSimpArgs false
namespace Go.Proofs.YtpfcmlmljolplaaDoor
open Go.RowKit
attribute [local go_sem] GW.cell GW.frozen In.eq_true In.le_true In.ne In.ne' In.ne_add In.ne_add' In.lt_add Upto.le_true Upto.le_add Upto.lt_add
theorem errR_ext {w w' : World} (h : ErrR w) (e : Ext w w') : ErrR w' := by
  obtain ⟨tp, p, hv⟩ := h
  have hg : Tryd.prog.globalNamed "strconv.ErrRange" = some 1 := by kernel_rfl
  exact ⟨tp, p, var?_below e hg (World.block_lt_of_cell? _ ⟨1, 0, none⟩ ((World.var?_cell hg hv 0).trans rfl)) hv⟩
set_option maxHeartbeats 1000000 in
set_option maxRecDepth 100000 in
theorem showText_c (s : ByteArray) (hs : s.size ≤ 64) (w : World) : Calls Tryd.prog 5 #[val 2 0 s] w fun e w' => e = .returned (.string ⟨(showB s.data.toList).toArray⟩) ∧ Ext w w' := by
  have h1 := hide (fun w => inner_text s hs w)
  have hc := hide (fun w => textShow_c s hs w)
  clear hs
  go_enter Tryd.func5, Tryd.ntmps5
  go_wp2_with (first | (go_at_call 11; with_reducible refine seq_gw (h1.out _) ?_; intro g) | (go_at_call 83; with_reducible refine seq_gw' (hc.out _) ?_; intro g))
  go_returns
  exact ⟨rfl, ((Ext.refl w).alloc _).trans g.grown⟩
set_option maxHeartbeats 1000000 in
set_option maxRecDepth 100000 in
theorem unquote_live (w : World) : Calls Tryd.prog 23 #[.string ⟨#[39, 97]⟩] w fun e w' => e = .returned (.tuple #[.string ⟨#[]⟩, .bool false]) ∧ Ext w w' := by
  go_enter Tryd.func23, Tryd.ntmps23
  go_wp2_with fail
  go_returns
  exact ⟨rfl, Ext.refl w⟩
set_option maxHeartbeats 1000000 in
set_option maxRecDepth 100000 in
theorem parseText_live (w : World) : Calls Tryd.prog 12 #[.string ⟨#[39, 97]⟩] w fun e w' => e = .returned (.tuple #[val 0 0 ⟨#[]⟩, .int .i64 4]) ∧ Ext w w' := by
  go_enter Tryd.func12, Tryd.ntmps12
  go_wp2_with (go_at_call 23; with_reducible refine seq_gw (unquote_live _) ?_; intro g)
  go_returns
  exact ⟨rfl, (((((Ext.refl w).alloc _).trans g.grown).setCell (Nat.le_refl _) _).setCell (Nat.le_refl _) _).setCell (Nat.le_refl _) _⟩
set_option maxHeartbeats 1000000 in
set_option maxRecDepth 100000 in
theorem parse_live1 (w : World) : Calls Tryd.prog 6 #[.string ⟨#[39, 97]⟩] w fun e w' => e = .returned (.tuple #[val 0 0 ⟨#[]⟩, .int .i64 4]) ∧ Ext w w' := by
  go_enter Tryd.func6, Tryd.ntmps6
  go_wp2_with (go_at_call 12; with_reducible refine seq_gw (parseText_live _) ?_; intro g)
  go_returns
  exact ⟨rfl, (((((Ext.refl w).alloc _).trans g.grown).setCell (Nat.le_refl _) _).setCell (Nat.le_refl _) _).setCell (Nat.le_refl _) _⟩
set_option maxHeartbeats 1000000 in
set_option maxRecDepth 100000 in
theorem parse_live2 (w : World) (hE : ErrR w) : Calls Tryd.prog 6 #[.string ⟨#[45, 49, 50]⟩] w fun e w' => e = .returned (.tuple #[val 1 (-12) ⟨#[]⟩, .int .i64 0]) ∧ Ext w w' := by
  have hr := hide (fun w (h : ErrR w) => read_c ⟨#[45, 49, 50]⟩ (by decide) w h)
  rw [show readV (⟨#[45, 49, 50]⟩ : ByteArray).data.toList = -12 by decide +kernel, show readE (⟨#[45, 49, 50]⟩ : ByteArray).data.toList = 0 by decide +kernel] at hr
  replace hE := hide hE
  go_enter Tryd.func6, Tryd.ntmps6
  go_wp2_with (first | (go_at_call 13; with_reducible refine seq_gw (hr.out _ (errR_ext hE.out ((Ext.refl w).alloc _))) ?_; intro g) | (go_at_call 14; with_reducible refine seq_gw' (vnum_c _ _) ?_; intro g))
  go_returns
  exact ⟨rfl, (((((Ext.refl w).alloc _).trans g.grown).setCell (Nat.le_refl _) _).setCell (Nat.le_refl _) _).setCell (Nat.le_refl _) _⟩
theorem live5 : (⟨(showB (⟨#[105, 116, 39, 115]⟩ : ByteArray).data.toList).toArray⟩ : ByteArray) = ⟨#[39, 105, 116, 92, 50, 55, 115, 39]⟩ := by decide +kernel
theorem live6 : cmpV (1, -12, ⟨#[]⟩) (2, 0, ⟨#[105, 116, 39, 115]⟩) = -1 := by decide +kernel
theorem live7 : mayB 1 (-12) ⟨#[]⟩ = true := by decide +kernel
theorem live8 : mayB 0 0 ⟨#[]⟩ = false := by decide +kernel
set_option maxHeartbeats 4000000 in
set_option maxRecDepth 100000 in
theorem live_c (w : World) (hE : ErrR w) : Calls Tryd.prog 9 #[] w fun e w' => e = .returned (.bool true) ∧ Ext w w' := by
  have h1 := hide (fun w => vtext_ok ⟨#[105, 116, 39, 115]⟩ (by decide) w)
  have h2 := hide (fun w h => parse_live2 w h)
  have h3 := hide (fun w => parse_live1 w)
  have h4 := hide (fun w => vnum_c (-12) w)
  have h5 := hide (fun w => showText_c ⟨#[105, 116, 39, 115]⟩ (by decide) w)
  have h6 := hide (fun w => compare_c 1 (-12) 2 0 ⟨#[]⟩ ⟨#[105, 116, 39, 115]⟩ w)
  have h7 := hide (fun w => may_c 1 (-12) ⟨#[]⟩ w)
  have h8 := hide (fun w => may_c 0 0 ⟨#[]⟩ w)
  rw [live5] at h5
  rw [live6] at h6
  rw [live7] at h7
  rw [live8] at h8
  replace hE := hide hE
  go_enter Tryd.func9, Tryd.ntmps9
  go_wp2_with (first | (go_at_call 17; with_reducible refine seq_gw (h1.out _) ?_; intro g) | (go_at_call 6; first | ((with_reducible refine seq_gw (h2.out _ (errR_ext hE.out (g.grown.alloc _))) ?_); intro g2) | ((with_reducible refine seq_gw (h3.out _) ?_); intro g3)))
  refine wp_region_gw (by kernel_rfl) (by kernel_rfl) ?_
  repeat (go_big_quiet_step (first | (go_at_call 14; with_reducible exact quiet_gw (h4.out _)) | (go_at_call 5; with_reducible exact quiet_gw (h5.out _)) | (go_at_call 18; with_reducible exact quiet_gw (h6.out _)) | (go_at_call 8; first | (with_reducible exact quiet_gw (h7.out _)) | (with_reducible exact quiet_gw (h8.out _)))))
  refine wpQuiet_nil ?_
  intro g4
  go_wp2_with fail
  go_returns
  exact ⟨rfl, ((((((g.grown.alloc _).trans g2.grown).alloc _).trans g3.grown).alloc _).trans g4.grown)⟩
end Go.Proofs.YtpfcmlmljolplaaDoor
