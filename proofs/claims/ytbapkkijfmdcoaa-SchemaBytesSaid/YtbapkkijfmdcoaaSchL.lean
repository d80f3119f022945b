/-
  A helper of ours: no claim of its own. Layer 7 (schema): what must be whatever is asked.
-/
import Derived.Test.YtbapkkijfmdcoaaSchI
set_option linter.unusedVariables false
set_option linter.unusedSimpArgs false
namespace Go.Proofs.Ytbapkkijfmdcoaa
open Go.RowKit
attribute [local go_sem] GW.cell GW.frozen In.eq_true In.le_true In.ne In.ne' In.ne_add In.ne_add' In.lt_add Upto.le_true Upto.le_add Upto.lt_add
def sab : List Cl := [(⟨#[97]⟩, 1), (⟨#[98]⟩, 2)]
def sba : List Cl := [(⟨#[98]⟩, 2), (⟨#[97]⟩, 1)]
abbrev oab : Obj := .cells #[.string ⟨#[97]⟩, .int .i64 1, .string ⟨#[98]⟩, .int .i64 2] 34
theorem cwab (w : World) : Cw (w.alloc oab) [] (.slice (some ⟨w.heap.size, 0, none⟩) 2 2) sab := Sl.own (World.ownsRow_lit (base := w.heap.size) (e := 34) (size := 2) w #[.string ⟨#[97]⟩, .int .i64 1, .string ⟨#[98]⟩, .int .i64 2] 2 (Nat.le_refl _) (by decide) rfl) (by simp)
abbrev oi10 : Obj := .cells #[.int .i64 1, .int .i64 0] 3
theorem si10 (w : World) : Sl (w.alloc oi10) [] 1 (.slice (some ⟨w.heap.size, 0, none⟩) 2 2) 2 (ic [1, 0]) := Sl.own (World.ownsRow_lit (base := w.heap.size) (e := 3) (size := 1) w #[.int .i64 1, .int .i64 0] 2 (Nat.le_refl _) (by decide) rfl) (by simp)
theorem si10' (w : World) : Sl ((w.alloc oab).alloc oi10) [] 1 (.slice (some ⟨w.heap.size + 1, 0, none⟩) 2 2) 2 (ic [1, 0]) := by
  have := si10 (w.alloc oab)
  rwa [World.size_alloc] at this
theorem pabE : pickSE sab [1, 0] = 0 := by decide +kernel
theorem pabV : pickSV sab [1, 0] = sba := by decide +kernel
theorem jabE : joinSE sab sab = 9 := by decide +kernel
theorem mab : mayS sab = true := by decide +kernel
theorem iab : ixC sab ⟨#[98]⟩ = 1 := by decide +kernel
theorem n1 : nameB ⟨#[97, 49]⟩ = true := by decide +kernel
theorem n2 : nameB ⟨#[49, 97]⟩ = false := by decide +kernel
theorem shba : showS sba = ⟨#[98, 32, 116, 101, 120, 116, 44, 32, 97, 32, 110, 117, 109, 98, 101, 114]⟩ := by decide +kernel
set_option maxHeartbeats 4000000 in
set_option maxRecDepth 100000 in
theorem schLive_c (w : World) : Calls Try.prog 9 #[] w fun e w' => e = .returned (.bool true) ∧ Ext w w' := by
  have h0 := hide (cwab w)
  have hm := hide (fun v w' (hX : Cw w' [] v sab) => mayS_c sab v w' hX)
  have hi := hide (fun v w' (hX : Cw w' [] v sab) => index_c sab ⟨#[98]⟩ v w' hX)
  have hs := hide (fun v w' (hX : Cw w' [] v sba) => showS_c sba v w' hX)
  rw [mab] at hm
  rw [iab] at hi
  rw [shba] at hs
  have ha := hide (fun w => name_c ⟨#[97, 49]⟩ w)
  have hb := hide (fun w => name_c ⟨#[49, 97]⟩ w)
  rw [n1] at ha
  rw [n2] at hb
  have hX0 := hide ((Ext.refl w).alloc oab)
  go_enter Try.func9, Try.ntmps9
  go_wp2_with (first
    | (go_at_call 24; refine (pickS_c sab [1, 0] _ _ _ (Sl.ext h0.out ((Ext.refl _).alloc oi10)) (si10' w)).mono ?_; rintro ee w3 ⟨v3, rfl, ho3, hx3⟩; rw [pabE]; rw [pabV] at ho3; have hX3 := hide ((hX0.out.alloc oi10).trans hx3); have hY3 := hide (((Ext.refl (w.alloc oab)).alloc oi10).trans hx3); have hp3 := hide (own_cw (S := []) ho3 (by simp)))
    | (go_at_call 22; refine (joinS_c sab sab _ _ _ (Sl.ext h0.out hY3.out) (Sl.ext h0.out hY3.out)).mono ?_; rintro ee w4 ⟨v4, rfl, ho4, hx4⟩; rw [jabE]; have hX4 := hide (hX3.out.trans hx4); have hY4 := hide (hY3.out.trans hx4))
    | (go_at_call 12; ((with_reducible refine seq_gw (hm.out _ _ (Sl.ext h0.out hY4.out)) ?_); intro g5))
    | (go_at_call 30; ((with_reducible refine seq_gw' (hs.out _ _ (Sl.ext hp3.out (hx4.trans g5.grown))) ?_); intro g6))
    | (go_at_call 20; ((with_reducible refine seq_gw' (hi.out _ _ (Sl.ext h0.out (hY4.out.trans g6.grown))) ?_); intro g7))
    | (go_at_call 10; first | ((with_reducible refine seq_gw' (ha.out _) ?_); intro g8; clear ha) | ((with_reducible refine seq_gw' (hb.out _) ?_); intro g9)))
  go_returns
  exact ⟨by first | rfl | simp, hX4.out.trans g9.grown⟩
end Go.Proofs.Ytbapkkijfmdcoaa
