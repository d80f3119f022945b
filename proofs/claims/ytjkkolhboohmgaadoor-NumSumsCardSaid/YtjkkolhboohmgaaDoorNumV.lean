/-
  Layer 1 (num), 1.2: num.Sum. Our own work.
-/
import Derived.Test.YtjkkolhboohmgaaDoorNumU
set_option linter.unusedVariables false
set_option linter.unusedSimpArgs false
namespace Go.Proofs.YtjkkolhboohmgaaDoor
open Go.RowKit
attribute [local go_sem] GW.cell GW.frozen In.eq_true In.le_true In.ne In.ne' In.ne_add In.ne_add' In.lt_add Upto.le_true Upto.le_add Upto.lt_add
def sumV (l : List Int) : Int := okF (inR (isum l)) (isum l)
def sumE (l : List Int) : Int := ovE (inR (isum l))
theorem wrap64_i (n : Int) : wrap64 n = IntKind.i64.wrap n := by first | (rw [wrap_i]; rfl) | (rw [wrap_i]; unfold wrap64; rfl) | (rw [wrap_i]; unfold wrap64; omega)
set_option maxHeartbeats 4000000 in
theorem sum_c (l : List Int) (hl : InL l) (hz : l.length ≤ 140737488355328) (v : Value) (w : World) (hS : Sl w [] 1 v l.length (nums l)) : Calls Tryd.prog 6 #[v] w fun e w' => e = .returned (.tuple #[.int .i64 (sumV l), .int .i64 (sumE l)]) ∧ Ext w w' := by
  have hb := isum_le hl
  obtain ⟨A, cap, rfl, hn, hcap, hlen, hcells⟩ := hS
  replace hcells := hide hcells
  replace hl := hide hl
  clear hlen
  have hmf : ∀ (fn : Fn) (first cap : Array Value) (w : World), (Instr.makeFunc fn first cap).run Tryd.prog w = .ok (.func fn first cap) w := fun _ _ _ _ => rfl
  go_enter Tryd.func6, Tryd.ntmps6
  go_wp2_with fail
  obtain ⟨bl, ebl⟩ : ∃ bl, bl = w.heap.size + 1 := ⟨_, rfl⟩
  obtain ⟨bh, ebh⟩ : ∃ bh, bh = w.heap.size := ⟨_, rfl⟩
  have o1 : Ob ((w.alloc (Obj.cells #[Value.int IntKind.u64 0] 33)).alloc (Obj.cells #[Value.int IntKind.u64 0] 33)) bh 33 [.int .u64 0] := by
    unfold Ob; rw [ebh]; simp only [World.alloc, Array.getElem?_push]; simp
  have o2 : Ob ((w.alloc (Obj.cells #[Value.int IntKind.u64 0] 33)).alloc (Obj.cells #[Value.int IntKind.u64 0] 33)) bl 33 [.int .u64 0] := by
    unfold Ob; rw [ebl]; simp only [World.alloc, Array.getElem?_push]; simp
  have hX0 : Ext w ((w.alloc (Obj.cells #[Value.int IntKind.u64 0] 33)).alloc (Obj.cells #[Value.int IntKind.u64 0] 33)) := ((Ext.refl w).alloc _).alloc _
  have hne : bl ≠ bh := by omega
  have hgl : w.heap.size ≤ bl := by omega
  have hgh : w.heap.size ≤ bh := by omega
  rw [← ebl, ← ebh]
  generalize ((w.alloc (Obj.cells #[Value.int IntKind.u64 0] 33)).alloc (Obj.cells #[Value.int IntKind.u64 0] 33)) = w0 at o1 o2 hX0 ⊢
  clear ebl ebh
  go_loopw [13] (fun i wr => ∃ (k : Nat) (lo hi : Int), i = .int .i64 k ∧ k ≤ l.length ∧ Ob wr bl 33 [.int .u64 lo] ∧ Ob wr bh 33 [.int .u64 hi] ∧ Hid ((0 ≤ lo ∧ lo ≤ 18446744073709551615) ∧ (0 ≤ hi ∧ hi ≤ 18446744073709551615) ∧ lo + 18446744073709551616 * hi = isum (l.take k) % 340282366920938463463374607431768211456) ∧ Ext w wr) (fun i _ => l.length - (intOf i).toNat)
  case atStart => exact ⟨0, 0, 0, rfl, Nat.zero_le _, o2, o1, by rw [List.take_zero, isum_nil]; exact ⟨by omega, by omega, rfl⟩, hX0⟩
  case round =>
    obtain ⟨k, lo, hi, rfl, hk, ol, oh, hv, hX⟩ := hrel
    by_cases hlt : k < l.length
    · obtain ⟨x, hx⟩ : ∃ x, l[k]? = some x := ⟨_, List.getElem?_eq_getElem hlt⟩
      have hxb := hl.out x (List.mem_of_getElem? hx)
      rcases hcells.out with h0 | ⟨b, o, rfl, -, hc⟩
      · have : l.length = 0 := by have := congrArg List.length h0; simpa [nums] using this
        omega
      have hcx : wr.cell? ⟨b, o + k, none⟩ = some (.int .i64 x) := by
        have h1 := hc k (.int .i64 x) (by simp [nums, hx])
        exact (World.cell?_of_block (a := ⟨b, o + k, none⟩) (hX.block b (block_lt_of_cell h1))).trans h1
      obtain ⟨v1, v2, v3⟩ := hv.out
      have hs := hide (put_sum v1 v2 hxb v3)
      rw [← isum_take hx] at hs
      clear hc
      go_wp2_with (go_at_call 13; refine (put_c x lo hi bl bh hxb v1 v2 hne _ ol oh).mono ?_; rintro e w2 ⟨rfl, rfl⟩)
      go_roundw
      case rel => exact ⟨k + 1, _, _, by go_num, hlt, (ol.set 0 _).far _ _ hne, (oh.far _ _ hne.symm).set 0 _, ⟨by omega, by omega, hs.out⟩, (hX.setCell hgl _).setCell hgh _⟩
      case measure => simp [intOf]; omega
    · obtain ⟨v1, v2, v3⟩ := hv.out
      rw [List.take_of_length_le (by omega)] at v3
      replace hlt : (l.length : Int) ≤ (k : Int) := by omega
      have cl := ol.cell 0 rfl
      have ch := oh.cell 0 rfl
      clear hcells hl
      by_cases hr : -9223372036854775808 ≤ isum l ∧ isum l ≤ 9223372036854775807
      · obtain ⟨e1, e2⟩ := sum_yes v1 v2 v3 hr
        have e1 : wrap64 lo = isum l := (wrap64_i lo).trans e1
        have e3 : (hi == IntKind.u64.wrap (isum l / 9223372036854775808)) = true := by rw [e2]; simp
        have f1 := hide (show sumV l = isum l by unfold sumV; rw [inR_yes hr]; rfl)
        have f2 := hide (show sumE l = 0 by unfold sumE; rw [inR_yes hr]; rfl)
        clear hv v1 v2 v3 e2 hr hb
        go_wp2_with fail
        go_returns
        exact ⟨by rw [f1.out, f2.out]; rfl, hX⟩
      · have e2 := sum_no v1 v2 v3 (by omega) hr
        have e3 : (hi == IntKind.u64.wrap (wrap64 lo / 9223372036854775808)) = false := by rw [beq_eq_false_iff_ne, wrap64_i lo]; exact e2
        have f1 := hide (show sumV l = 0 by unfold sumV; rw [inR_no hr]; rfl)
        have f2 := hide (show sumE l = 10 by unfold sumE; rw [inR_no hr]; rfl)
        clear hv v1 v2 v3 e2 hr hb
        go_wp2_with fail
        go_returns
        exact ⟨by rw [f1.out, f2.out]; rfl, hX⟩
end Go.Proofs.YtjkkolhboohmgaaDoor
