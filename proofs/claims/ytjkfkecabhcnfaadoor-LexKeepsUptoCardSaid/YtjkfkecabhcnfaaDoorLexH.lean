/-
  A helper of ours: no claim of its own. Layer 19 (lex): what must be whatever is asked.
-/
import Derived.Test.YtjkfkecabhcnfaaDoorLexF
set_option linter.unusedVariables false
set_option linter.unusedSimpArgs false
namespace Go.Proofs.YtjkfkecabhcnfaaDoor
open Go.RowKit
attribute [local go_sem] GW.cell GW.frozen In.eq_true In.le_true In.ne In.ne' In.ne_add In.ne_add' In.lt_add Upto.le_true Upto.le_add Upto.lt_add
def liveT : List Tk := [(1, [97]), (4, [60, 61]), (2, [49, 50]), (4, [43]), (3, [39, 98, 32, 99, 39])]
theorem live1 : spl [97, 60, 61, 49, 50, 43, 39, 98, 32, 99, 39] = .ok liveT := by kernel_rfl
theorem live2 : spl [97, 32, 33] = .error 24 := by kernel_rfl
theorem live3 : spl [39, 97] = .error 5 := by kernel_rfl
theorem live4 : joinB (liveT.map (·.2)) = [97, 32, 60, 61, 32, 49, 50, 32, 43, 32, 39, 98, 32, 99, 39] := by kernel_rfl
set_option maxHeartbeats 8000000 in
set_option maxRecDepth 100000 in
theorem lexLive_c (w : World) : Calls Tryd.prog 7 #[] w fun e w' => e = .returned (.bool true) ∧ Ext w w' := by
  have h1 := hide (split_c ⟨#[97, 60, 61, 49, 50, 43, 39, 98, 32, 99, 39]⟩ (by decide) w)
  have h2 := hide (fun w => split_c ⟨#[97, 32, 33]⟩ (by decide) w)
  have h3 := hide (fun w => split_c ⟨#[39, 97]⟩ (by decide) w)
  rw [show (⟨#[97, 60, 61, 49, 50, 43, 39, 98, 32, 99, 39]⟩ : ByteArray).data.toList = [97, 60, 61, 49, 50, 43, 39, 98, 32, 99, 39] from rfl, live1] at h1
  rw [show (⟨#[97, 32, 33]⟩ : ByteArray).data.toList = [97, 32, 33] from rfl, live2] at h2
  rw [show (⟨#[39, 97]⟩ : ByteArray).data.toList = [39, 97] from rfl, live3] at h3
  replace h1 := hide (show Calls Tryd.prog 8 #[.string ⟨#[97, 60, 61, 49, 50, 43, 39, 98, 32, 99, 39]⟩] w fun e w' => ∃ v', e = .returned (.tuple #[v', .int .i64 0]) ∧ OwnK w' w.heap.size v' liveT ∧ Ext w w' from h1.out)
  replace h2 := hide (show ∀ w, Calls Tryd.prog 8 #[.string ⟨#[97, 32, 33]⟩] w fun e w' => ∃ v', e = .returned (.tuple #[v', .int .i64 24]) ∧ OwnK w' w.heap.size v' [] ∧ Ext w w' from h2.out)
  replace h3 := hide (show ∀ w, Calls Tryd.prog 8 #[.string ⟨#[39, 97]⟩] w fun e w' => ∃ v', e = .returned (.tuple #[v', .int .i64 5]) ∧ OwnK w' w.heap.size v' [] ∧ Ext w w' from h3.out)
  go_enter Tryd.func7, Tryd.ntmps7
  go_wp2_with (first | (go_at_call 8; refine h1.out.mono ?_; rintro ee w1 ⟨v1, rfl, ho1, hx1⟩; clear h1; obtain ⟨A, cap, rfl, -, -, hat⟩ := tw_form (own_tw (S := []) ho1 (by simp)); obtain ⟨b, o, rfl, -, hb, c0, c1⟩ := hat 1 (4, [60, 61]) rfl; obtain ⟨b', o', e', -, -, d0, d1⟩ := hat 2 (2, [49, 50]) rfl; obtain ⟨rfl, rfl⟩ : b = b' ∧ o = o' := (by simpa using e'); have hj := hide (fun w' (hX : Ext w1 w') => join_c liveT _ w' (Sl.ext (own_tw (S := []) ho1 (by simp)) hX) (by decide) (by rw [live4]; decide)); rw [live4] at hj; simp only [Nat.one_mul] at c0 c1 d0 d1; clear hat e') | (go_at_call 8; refine (h2.out _).mono ?_; rintro ee w2 ⟨v2, rfl, -, hx2⟩; clear h2) | (go_at_call 8; refine (h3.out _).mono ?_; rintro ee w3 ⟨v3, rfl, -, hx3⟩; clear h3; have k1 := cell_later' (hx2.trans hx3) c1; have j0 := cell_later' (hx2.trans hx3) d0; have hbr := block_lt_of_cell k1) | (go_at_call 13; (with_reducible refine seq_gw (hj.out _ (hx2.trans hx3)) ?_); intro g))
  go_returns
  exact ⟨by first | rfl | simp, ((hx1.trans hx2).trans hx3).trans g.grown⟩
end Go.Proofs.YtjkfkecabhcnfaaDoor
