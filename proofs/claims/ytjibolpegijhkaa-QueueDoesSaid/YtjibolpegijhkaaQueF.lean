/-
  A helper of ours: no claim of its own. Layer 15 (queue): Pop; one item as a slice.
-/
import Derived.Test.YtjibolpegijhkaaQueE
import Derived.Test.YtjibolpegijhkaaReg3
set_option linter.unusedVariables false
set_option linter.unusedSimpArgs false
namespace Go.Proofs.Ytjibolpegijhkaa
open Go.RowKit
attribute [local go_sem] GW.cell GW.frozen In.eq_true In.le_true In.ne In.ne' In.ne_add In.ne_add' In.lt_add Upto.le_true Upto.le_add Upto.lt_add
theorem Ft.setNew {B : Nat} {Ts : List TypeId} {w w' : World} (h : Ft B Ts w w') {p : Addr} (hp : w.heap.size ≤ p.block) (u : Value) : Ft B Ts w (w'.setCell p u) :=
  ⟨h.os, h.tape, h.output, by simpa using h.size, fun k hk hc => (Below.heap_setCell w' p u k (by omega)).trans (h.block k hk hc)⟩
theorem QS.set {w : World} {B q : Nat} {P : List It} {n : Int} {b i : Nat} {vs : List Value} (h : QS w B q P n) (hb : Ob w b 27 vs) (hB : B ≤ b) (u : Value) : QS (w.setCell ⟨b, i, none⟩ u) B q P n :=
  h.ft (Ts := [27]) ((Ft.refl w).set hB hb (by simp)) (by decide) (by decide)
set_option maxHeartbeats 4000000 in
set_option maxRecDepth 100000 in
theorem pop_c (B q : Nat) (P : List It) (hP : P.length ≤ 1000000) (n : Int) (w : World) (hB : B ≤ w.heap.size) (h : QS w B q P n) : Calls Try.prog 10 #[.pointer (some ⟨q, 0, none⟩)] w fun e w' => e = .returned (.tuple #[jm (hdL (ths P)), .bool (decide (0 < P.length))]) ∧ (∃ P', ths P' = popL (ths P) ∧ QS w' B q P' n) ∧ Ft B Tq w w' := by
  have hK := hide (fun w' (hX : Ext w w') => peek_c B q P n w' (h.ext hX))
  have hlt := h.lt.1
  haveI : In q w := ⟨hlt⟩
  by_cases h0 : 0 < P.length
  · have hD := hide (fun w' (hX : Ext w w') => drop_c B q P hP h0 n w' (h.ext hX))
    rw [decide_eq_true h0] at hK ⊢
    obtain ⟨⟨ra, rn⟩, hr⟩ : ∃ r, r = hdL (ths P) := ⟨_, rfl⟩
    rw [← hr] at hK ⊢
    clear hr h
    generalize popL (ths P) = L' at *
    have hOR := hide (Ob.new w 27 [.int .i64 0, .int .i64 0])
    go_enter Try.func10, Try.ntmps10
    go_wp2_with (first | (go_at_call 12; (with_reducible refine seq_gw (hK.out _ ((Ext.refl _).alloc _)) ?_); intro g) | (go_at_call 19; (refine (hD.out _ ((((Ext.refl _).alloc _).trans g.grown).alloc _)).mono ?_; rintro ee w9 ⟨rfl, ⟨P', k1, k2⟩, k3⟩; have OR9 := k3.ob ((hOR.out.ext g.grown).alloc _) (by decide); have OM9 := k3.ob (Ob.new g.val 27 [.int .i64 ra, .int .i64 rn]) (by decide); have r0 := OR9.cell 0 rfl; have r1 := OR9.cell 1 rfl; have s0 := OM9.cell 0 rfl; have s1 := OM9.cell 1 rfl; have rf0 := OR9.free 0; have rf1 := OR9.free 1; have rlt := OR9.lt; haveI : In w.heap.size w9 := ⟨rlt⟩; have slt := OM9.lt; haveI : In g.val.heap.size w9 := ⟨slt⟩; have OR10 := hide (OR9.set 0 (.int .i64 ra)); replace k2 := hide k2; replace k3 := hide k3; replace OR9 := hide OR9)))
    have hPo : QS ((w9.setCell ⟨w.heap.size, 0, none⟩ (.int .i64 ra)).setCell ⟨w.heap.size, 1, none⟩ (.int .i64 rn)) B q P' n := (k2.out.set OR9.out hB _).set OR10.out hB _
    have hFo : Ft B Tq w ((w9.setCell ⟨w.heap.size, 0, none⟩ (.int .i64 ra)).setCell ⟨w.heap.size, 1, none⟩ (.int .i64 rn)) := (((Ft.of_ext ((((Ext.refl _).alloc _).trans g.grown).alloc _)).trans k3.out).setNew (Nat.le_refl _) _).setNew (Nat.le_refl _) _
    replace hPo := hide hPo
    replace hFo := hide hFo
    replace k1 := hide k1
    have hR0 := (OR10.out.set 1 (.int .i64 rn)).cell 0 rfl
    have hR1 := (OR10.out.set 1 (.int .i64 rn)).cell 1 rfl
    refine bodyPost_ret (by simp [results, Try.results10, go_sem, hR0, hR1]; try rfl) rfl ?_
    exact ⟨rfl, ⟨P', k1.out, hPo.out⟩, hFo.out⟩
  · obtain rfl : P = [] := List.eq_nil_of_length_eq_zero (by omega)
    have e1 : hdL (ths []) = (0, 0) := rfl
    rw [e1] at hK ⊢
    rw [decide_eq_false h0] at hK ⊢
    have hPo := hide h
    clear h
    go_enter Try.func10, Try.ntmps10
    go_wp2_with (go_at_call 12; (with_reducible refine seq_gw (hK.out _ ((Ext.refl _).alloc _)) ?_); intro g)
    have hX := hide ((((((Ext.refl w).alloc _).trans g.grown).setCell (p := ⟨w.heap.size, 0, none⟩) (Nat.le_refl _) (.int .i64 0)).setCell (p := ⟨w.heap.size, 1, none⟩) (Nat.le_refl _) (.int .i64 0)).alloc (.cells #[.int .i64 0, .int .i64 0] 27))
    go_returns
    exact ⟨by simp [jm], ⟨[], rfl, hPo.out.ext hX.out⟩, Ft.of_ext hX.out⟩
/-- One item, as a slice. -/
def OneI (w : World) (v : Value) (x : It) : Prop := Sl w [] 3 v 1 (itc [x])
def oneI (x : It) : Fact := .st (fun u w => OneI w u x) (fun _ _ _ h k => Sl.ext h k)
theorem buildI1 (x : It) (w : World) : (Instr.buildSlice 45 1 #[(0, im x)]).run Try.prog w = .ok (.slice (some ⟨w.heap.size, 0, none⟩) 1 1) (w.alloc (.cells (it1 x).toArray 49)) := by
  simp [go_sem, it1]
theorem oneI_new (x : It) (w : World) : OneI (w.alloc (.cells (it1 x).toArray 49)) (.slice (some ⟨w.heap.size, 0, none⟩) 1 1) x :=
  Sl.own (World.ownsRow_lit (base := w.heap.size) (e := 49) (size := 3) w #[.int .i64 x.1.1, .int .i64 x.1.2, .int .i64 x.2] 1 (Nat.le_refl _) (by decide) rfl) (by simp)
theorem onei_form {w : World} {v : Value} {x : It} (h : OneI w v x) : ∃ A cap, v = .slice A 1 cap := by obtain ⟨A, cap, e, _⟩ := h; exact ⟨A, cap, e⟩
theorem tItem : ElemT Try.prog 45 49 (.agg #[.int .i64 0, .int .i64 0, .int .i64 0]) 3 24 := ElemT.mk' Try.underlying45 (by kernel_rfl) rfl (by omega)
theorem own_appI {w : World} {B : Nat} {v : Value} {l : List It} {x : It} (h : w.ownsRow B 49 3 v (l.length + 1) (itc l ++ itc [x])) : OwnI w B v (l ++ [x]) := by
  unfold OwnI; rw [List.length_append, itc_append]; exact h
theorem itc_one (l : List It) : ∀ u ∈ itc l, u.oneCell' = true := by
  intro u hu
  simp only [itc, List.mem_flatMap, it1] at hu
  obtain ⟨p, hp, hu⟩ := hu
  simp at hu
  rcases hu with rfl | rfl | rfl <;> rfl
end Go.Proofs.Ytjibolpegijhkaa
