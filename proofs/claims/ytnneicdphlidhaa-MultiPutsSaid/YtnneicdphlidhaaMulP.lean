/-
  A helper of ours: no claim of its own. Layer 24 (multi): a multi as things and a count; live.
-/
import Derived.Test.YtnneicdphlidhaaMulO
import Derived.Test.YtnneicdphlidhaaMulM
set_option linter.unusedVariables false
set_option linter.unusedSimpArgs false
namespace Go.Proofs.Ytnneicdphlidhaa
open Go.RowKit
attribute [local go_sem] GW.cell GW.frozen In.eq_true In.le_true In.ne In.ne' In.ne_add In.ne_add' In.lt_add Upto.le_true Upto.le_add Upto.lt_add
/-- A multi that was made behind W0. -/
def Ml (W0 w : World) (b : Nat) (l : List Tg) (c : Int) : Prop := ∃ v, Mu w W0.heap.size b v l c ∧ Good l c ∧ Ext W0 w
theorem Ml.later {W0 w w' : World} {b : Nat} {l : List Tg} {c : Int} (h : Ml W0 w b l c) (k : Ext w w') : Ml W0 w' b l c := by
  obtain ⟨v, h1, h2, h3⟩ := h
  exact ⟨v, h1.ext k, h2, h3.trans k⟩
theorem mnewM (W0 w : World) (hX : Ext W0 w) : Calls Try.prog 9 #[cmpF] w fun e w' => ∃ b, e = .returned (.pointer (some ⟨b, 0, none⟩)) ∧ Ml W0 w' b [] 0 := by
  refine (mnew_c w).mono ?_
  rintro e w' ⟨rfl, hM, hE⟩
  exact ⟨_, rfl, .slice none 0 0, ⟨hM.ob, World.ownsRow_nil _ _ _ _, hX.size⟩, ⟨List.Pairwise.nil, by simp, rfl, by decide⟩, hX.trans hE⟩
theorem mputM (k n : Int) (W0 w : World) (b : Nat) (l : List Tg) (c : Int) (h : Ml W0 w b l c) : Calls Try.prog 12 #[.pointer (some ⟨b, 0, none⟩), .int .i64 k, .int .i64 n] w fun e w' => e = .returned (.int .i64 (putE k n l c)) ∧ Ml W0 w' b (putL k n l c) (putC k n l c) := by
  obtain ⟨v, hm, hg, hX⟩ := h
  refine (mput_c k n _ b v l c w hm hg.rise hg.len hg.nonneg (ofT_good hg) (b :: v.ownBlock.toList) (by simp) (fun x hx => by simp [hx]) (fun x hx => ?_)).mono ?_
  · rcases List.mem_cons.1 hx with rfl | hx
    · exact hm.ob.lt
    · exact (World.ownsRow.lt hm.own x (by simpa using hx)).2
  · rintro e w' ⟨rfl, v', hM', hF, -⟩
    refine ⟨rfl, v', hM', good_put hg, ext_fr hX hF fun x hx => ?_⟩
    rcases List.mem_cons.1 hx with rfl | hx
    · exact hm.le
    · exact (World.ownsRow.lt hm.own x (by simpa using hx)).1
theorem mofM (k : Int) (W0 w : World) (b : Nat) (l : List Tg) (c : Int) (h : Ml W0 w b l c) : Calls Try.prog 17 #[.pointer (some ⟨b, 0, none⟩), .int .i64 k] w fun e w' => e = .returned (.int .i64 (ofT k l)) ∧ Ext w w' := by
  obtain ⟨v, hm, hg, hX⟩ := h
  exact mof_c k l hg.rise hg.len _ b v c w hm
theorem mcountM (W0 w : World) (b : Nat) (l : List Tg) (c : Int) (h : Ml W0 w b l c) : Calls Try.prog 16 #[.pointer (some ⟨b, 0, none⟩)] w fun e w' => e = .returned (.int .i64 c) ∧ Ext w w' := by
  obtain ⟨v, hm, hg, hX⟩ := h
  exact mcount_c l _ b v c w hm
theorem mnthM (i : Int) (W0 w : World) (b : Nat) (l : List Tg) (c : Int) (h : Ml W0 w b l c) : Calls Try.prog 14 #[.pointer (some ⟨b, 0, none⟩), .int .i64 i] w fun e w' => e = .returned (.tuple #[.int .i64 (nthR i l c).1, .bool (nthR i l c).2]) ∧ Ext w w' := by
  obtain ⟨v, hm, hg, hX⟩ := h
  exact mnth_c i _ b v l c w hm hg.nonneg hg.cop
theorem mleastM (W0 w : World) (b : Nat) (l : List Tg) (c : Int) (h : Ml W0 w b l c) : Calls Try.prog 19 #[.pointer (some ⟨b, 0, none⟩)] w fun e w' => e = .returned (.tuple #[.int .i64 (nthR 0 l c).1, .bool (nthR 0 l c).2]) ∧ Ext w w' := by
  obtain ⟨v, hm, hg, hX⟩ := h
  exact mleast_c _ b v l c w hm hg.nonneg hg.cop
theorem mmostM (W0 w : World) (b : Nat) (l : List Tg) (c : Int) (h : Ml W0 w b l c) : Calls Try.prog 20 #[.pointer (some ⟨b, 0, none⟩)] w fun e w' => e = .returned (.tuple #[.int .i64 (lastT l c).1, .bool (lastT l c).2]) ∧ Ext w w' := by
  obtain ⟨v, hm, hg, hX⟩ := h
  exact mmost_c _ b v l c w hm hg.len hg.ne
set_option maxHeartbeats 4000000 in
set_option maxRecDepth 100000 in
theorem multiLive_c (w : World) : Calls Try.prog 8 #[] w fun e w' => e = .returned (.bool true) ∧ Ext w w' := by
  have h0 := hide (mnewM w w (Ext.refl w))
  have h1 : Hid (∀ w' b, Ml w w' b [] 0 → Calls Try.prog 12 #[.pointer (some ⟨b, 0, none⟩), .int .i64 5, .int .i64 2] w' fun e w2 => e = .returned (.int .i64 0) ∧ Ml w w2 b [(5, 2)] 2) := fun w' b h => mputM 5 2 w w' b _ _ h
  have h2 : Hid (∀ w' b, Ml w w' b [(5, 2)] 2 → Calls Try.prog 12 #[.pointer (some ⟨b, 0, none⟩), .int .i64 3, .int .i64 1] w' fun e w2 => e = .returned (.int .i64 0) ∧ Ml w w2 b [(3, 1), (5, 2)] 3) := fun w' b h => mputM 3 1 w w' b _ _ h
  have h3 : Hid (∀ w' b, Ml w w' b [(3, 1), (5, 2)] 3 → Calls Try.prog 12 #[.pointer (some ⟨b, 0, none⟩), .int .i64 3, .int .i64 (-2)] w' fun e w2 => e = .returned (.int .i64 20) ∧ Ml w w2 b [(3, 1), (5, 2)] 3) := fun w' b h => mputM 3 (-2) w w' b _ _ h
  have h4 : Hid (∀ w' b, Ml w w' b [(3, 1), (5, 2)] 3 → Calls Try.prog 19 #[.pointer (some ⟨b, 0, none⟩)] w' fun e w2 => e = .returned (.tuple #[.int .i64 3, .bool true]) ∧ Ext w' w2) := fun w' b h => mleastM w w' b _ _ h
  have h5 : Hid (∀ w' b, Ml w w' b [(3, 1), (5, 2)] 3 → Calls Try.prog 20 #[.pointer (some ⟨b, 0, none⟩)] w' fun e w2 => e = .returned (.tuple #[.int .i64 5, .bool true]) ∧ Ext w' w2) := fun w' b h => mmostM w w' b _ _ h
  have h6 : Hid (∀ w' b, Ml w w' b [(3, 1), (5, 2)] 3 → Calls Try.prog 16 #[.pointer (some ⟨b, 0, none⟩)] w' fun e w2 => e = .returned (.int .i64 3) ∧ Ext w' w2) := fun w' b h => mcountM w w' b _ _ h
  go_enter Try.func8, Try.ntmps8
  go_wp2_with (first
    | (go_at_call 9; refine h0.out.mono ?_; rintro ee w1 ⟨b, rfl, hM1⟩; replace hM1 := hide hM1)
    | (go_at_call 12; first
        | (refine (h1.out _ _ hM1.out).mono ?_; rintro ee w2 ⟨rfl, hM2⟩; replace hM2 := hide hM2; clear hM1)
        | (refine (h2.out _ _ hM2.out).mono ?_; rintro ee w3 ⟨rfl, hM3⟩; replace hM3 := hide hM3; clear hM2)
        | (refine (h3.out _ _ hM3.out).mono ?_; rintro ee w4 ⟨rfl, hM4⟩; replace hM4 := hide hM4; clear hM3))
    | (go_at_call 19; (with_reducible refine seq_gw (h4.out _ _ hM4.out) ?_); intro g5; have hM5 := hide (hM4.out.later g5.grown))
    | (go_at_call 20; (with_reducible refine seq_gw (h5.out _ _ hM5.out) ?_); intro g6; have hM6 := hide (hM5.out.later g6.grown))
    | (go_at_call 16; (with_reducible refine seq_gw (h6.out _ _ hM6.out) ?_); intro g7; have hM7 := hide (hM6.out.later g7.grown)))
  go_returns
  exact ⟨by first | rfl | simp, by obtain ⟨v, _, _, hX⟩ := hM7.out; exact hX⟩
end Go.Proofs.Ytnneicdphlidhaa
