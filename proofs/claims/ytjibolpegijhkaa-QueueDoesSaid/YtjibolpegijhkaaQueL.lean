/-
  A helper of ours: no claim of its own. Layer 15 (queue): what must be whatever is asked.
-/
import Derived.Test.YtjibolpegijhkaaQueJ
set_option linter.unusedVariables false
set_option linter.unusedSimpArgs false
namespace Go.Proofs.Ytjibolpegijhkaa
open Go.RowKit
attribute [local go_sem] GW.cell GW.frozen In.eq_true In.le_true In.ne In.ne' In.ne_add In.ne_add' In.lt_add Upto.le_true Upto.le_add Upto.lt_add
theorem jw_ob {w : World} {b : Nat} {T : TypeId} {l : List Jp} (h : Ob w b T (ps l)) (hn : l.length ≤ maxLen) : Jw w [] (.slice (some ⟨b, 0, none⟩) l.length l.length) l :=
  ⟨_, _, rfl, Nat.le_refl _, hn, ps_length l, .inr ⟨b, 0, rfl, by simp, fun j u hu => by rw [Nat.zero_add]; exact h.cell j hu⟩⟩
set_option maxHeartbeats 8000000 in
set_option maxRecDepth 100000 in
theorem queLive_c (w : World) : Calls Try.prog 6 #[] w fun e w' => e = .returned (.bool true) ∧ Ext w w' := by
  have hN := hide (new_c w.heap.size w (Nat.le_refl _))
  have hP := hide (fun q w' (hQ : QS w' w.heap.size q [] 0) z (hz : ∀ w'', Ft w.heap.size Tq w' w'' → Jw w'' [] z [(2, 1), (1, 5), (1, 2)]) => push_c w.heap.size q [] [(2, 1), (1, 5), (1, 2)] (by simp) 0 (by omega) (by omega) z w' hQ hz)
  have hO := hide (fun q w' P n (h1 : ths P = [] ++ [(2, 1), (1, 5), (1, 2)]) (hB : w.heap.size ≤ w'.heap.size) (hQ : QS w' w.heap.size q P n) => show Calls Try.prog 10 #[.pointer (some ⟨q, 0, none⟩)] w' fun e w'' => e = .returned (.tuple #[jm (1, 5), .bool true]) ∧ (∃ P', ths P' = [(2, 1), (1, 2)] ∧ QS w'' w.heap.size q P' n) ∧ Ft w.heap.size Tq w' w'' from by
    have hl : P.length = 3 := by have := congrArg List.length h1; simpa [ths] using this
    have := pop_c w.heap.size q P (by omega) n w' hB hQ
    rw [h1, hl] at this
    exact this)
  have hK := hide (fun q w' P n (h1 : ths P = [(2, 1), (1, 2)]) (hQ : QS w' w.heap.size q P n) => show Calls Try.prog 12 #[.pointer (some ⟨q, 0, none⟩)] w' fun e w'' => e = .returned (.tuple #[jm (1, 2), .bool true]) ∧ Ext w' w'' from by
    have hl : P.length = 2 := by have := congrArg List.length h1; simpa [ths] using this
    have := peek_c w.heap.size q P n w' hQ
    rw [h1, hl] at this
    exact this)
  have hL := hide (fun q w' P n (h1 : ths P = [(2, 1), (1, 2)]) (hQ : QS w' w.heap.size q P n) => show Calls Try.prog 14 #[.pointer (some ⟨q, 0, none⟩)] w' fun e w'' => e = .returned (.int .i64 2) ∧ Ext w' w'' from by
    have hl : P.length = 2 := by have := congrArg List.length h1; simpa [ths] using this
    have := qlen_c w.heap.size q P n w' hQ
    rw [hl] at this
    exact this)
  go_enter Try.func6, Try.ntmps6
  go_wp2_with (first | (go_at_call 7; (refine hN.out.mono ?_; rintro ee w1 ⟨q, rfl, hq1, hq2, hx1⟩; have hX1 := hide hx1; have hlt1 := hq1.lt.1; haveI : In q w1 := ⟨hlt1⟩; replace hq1 := hide hq1)) | (go_at_call 9; (refine (hP.out _ _ (hq1.out.ext ((Ext.refl _).alloc _)) _ (fun w'' k => jw_ob (l := [(2, 1), (1, 5), (1, 2)]) (k.ob (Ob.new _ 27 [.int .i64 2, .int .i64 1, .int .i64 1, .int .i64 5, .int .i64 1, .int .i64 2]) (by decide)) (by decide))).mono ?_; rintro ee w2 ⟨rfl, ⟨P2, p1, p2⟩, p3⟩; have hX2 := hide (p3.ext (hX1.out.alloc _) (Nat.le_refl _)); have hs2 := hX2.out.size; replace p2 := hide p2; clear p3)) | (go_at_call 10; (refine (hO.out _ _ _ _ p1 hs2 p2.out).mono ?_; rintro ee w3 ⟨rfl, ⟨P3, r1, r2⟩, r3⟩; have hX3 := hide (r3.ext hX2.out (Nat.le_refl _)); replace r2 := hide r2; clear r3)) | (go_at_call 12; (with_reducible refine seq_gw (hK.out _ _ _ _ r1 (r2.out.ext ((Ext.refl _).alloc _))) ?_); intro g4) | (go_at_call 14; (with_reducible refine seq_gw (hL.out _ _ _ _ r1 (r2.out.ext ((((Ext.refl _).alloc _).trans g4.grown).alloc _))) ?_); intro g5))
  go_returns
  exact ⟨by first | rfl | simp, (((hX3.out.alloc _).trans g4.grown).alloc _).trans g5.grown⟩
end Go.Proofs.Ytjibolpegijhkaa
