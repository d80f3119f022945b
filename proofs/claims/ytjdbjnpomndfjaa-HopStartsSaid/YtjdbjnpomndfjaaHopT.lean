/-
  A helper of ours: no claim of its own. Layer 28 (hop): what must be whatever is asked.
-/
import Derived.Test.YtjdbjnpomndfjaaHopH
import Derived.Test.YtjdbjnpomndfjaaHopF
import Derived.Test.YtjdbjnpomndfjaaSnaF
import Derived.Test.YtjdbjnpomndfjaaHopL
set_option linter.unusedVariables false
set_option linter.unusedSimpArgs false
namespace Go.Proofs.Ytjdbjnpomndfjaa
open Go.RowKit
attribute [local go_sem] GW.cell GW.frozen In.eq_true In.le_true In.ne In.ne' In.ne_add In.ne_add' In.lt_add Upto.le_true Upto.le_add Upto.lt_add
theorem hsL_len (s h lo hi f r : Int) : (hsL s h lo hi f r).length ≤ 1024 := by
  unfold hsL
  split
  · rename_i he
    unfold hsE at he
    split at he
    · omega
    split at he
    · omega
    split at he
    · omega
    split at he
    · omega
    · omega
  · simp
set_option maxHeartbeats 8000000 in
set_option maxRecDepth 100000 in
theorem hopStarts_walk (hlive : HopLive) (s h lo hi f r : Int) (b1 : I64 lo) (b2 : I64 hi) (w : World) : Calls Try.prog 8 #[.int .i64 s, .int .i64 h, .agg #[.int .i64 lo, .int .i64 hi], .int .i64 f, .int .i64 r] w fun e w' => e = .returned (.bool true) ∧ Ext w w' := by
  have h1 := hide (fun w => hstarts_c s h lo hi f r b1 b2 w)
  have h2 := hide (fun w => hrefStarts_c s h lo hi f r b1 b2 w)
  have h3 := hide hlive
  have hl := hsL_len s h lo hi f r
  generalize hsL s h lo hi f r = L at *
  generalize hsE s h lo hi f r = E at *
  replace hl := hide hl
  clear hlive
  go_enter Try.func8, Try.ntmps8
  go_wp2_with (first
    | (go_at_call 27; refine (h1.out _).mono ?_; rintro ee w1 ⟨v1, rfl, ho1, hX1⟩; obtain ⟨A1, c1, q1⟩ := own_form ho1; subst q1; replace ho1 := hide ho1; have c0 := ((Ob.new w 36 [.int .i64 lo, .int .i64 hi]).ext hX1).cell 0 rfl; have c1' := ((Ob.new w 36 [.int .i64 lo, .int .i64 hi]).ext hX1).cell 1 rfl; haveI : In w.heap.size w1 := ⟨block_lt_of_cell c0⟩; have hX1w := hide (((Ext.refl w).alloc (.cells #[.int .i64 lo, .int .i64 hi] 36)).trans hX1); clear hX1)
    | (go_at_call 28; refine (h2.out _).mono ?_; rintro ee w2 ⟨v2, rfl, ho2, hX2⟩; obtain ⟨A2, c2, q2⟩ := own_form ho2; subst q2; replace ho2 := hide ho2; have hX2w := hide (hX1w.out.trans hX2); have hoB := hide (own_ext ho1.out hX2); clear hX2)
    | (go_at_call 26; first | ((with_reducible refine seq_gw' (h3.out _) ?_); intro g3) | ((with_reducible refine seq_gw (h3.out _) ?_); intro g3))
    | (go_at_call 29; have hal := hide (halike_c g3.val (own_ext hoB.out g3.grown) (own_ext ho2.out g3.grown) (by have := hl.out; omega)); first | ((with_reducible refine seq_gw' hal.out ?_); intro g4) | ((with_reducible refine seq_gw hal.out ?_); intro g4)))
  go_returns
  exact ⟨by first | rfl | simp, hX2w.out.trans (by first | exact g4.grown | exact g3.grown.trans g4.grown)⟩
end Go.Proofs.Ytjdbjnpomndfjaa
set_option linter.unusedVariables false
set_option linter.unusedSimpArgs false
namespace Go.Proofs.Ytjdbjnpomndfjaa
open Go.RowKit
attribute [local go_sem] GW.cell GW.frozen In.eq_true In.le_true In.ne In.ne' In.ne_add In.ne_add' In.lt_add Upto.le_true Upto.le_add Upto.lt_add
def rOne : List Vl := [(1, 1, ⟨#[]⟩)]
abbrev oOne : Obj := .cells #[.int .i64 1, .int .i64 1, .string ⟨#[]⟩] 62
theorem rwOne (w : World) : Rw (w.alloc oOne) [] (.slice (some ⟨w.heap.size, 0, none⟩) 1 1) rOne := Sl.own (World.ownsRow_lit (base := w.heap.size) (e := 62) (size := 3) w #[.int .i64 1, .int .i64 1, .string ⟨#[]⟩] 1 (Nat.le_refl _) (by decide) rfl) (by simp)
end Go.Proofs.Ytjdbjnpomndfjaa
set_option linter.unusedVariables false
set_option linter.unusedSimpArgs false
namespace Go.Proofs.Ytjdbjnpomndfjaa
open Go.RowKit
attribute [local go_sem] GW.cell GW.frozen In.eq_true In.le_true In.ne In.ne' In.ne_add In.ne_add' In.lt_add Upto.le_true Upto.le_add Upto.lt_add
def hpE0 : List Ed := [(rOne, (3, 1)), (rOne, (7, -1))]
theorem hp0_a : hopV 10 5 12 = 5 := by decide +kernel
theorem hp0_b : hopE 10 5 12 = 0 := by decide +kernel
theorem hp0_c : hsE 10 5 3 7 0 100 = 0 := by decide +kernel
theorem hp0_d : hsL 10 5 3 7 0 100 = [0, 5] := by decide +kernel
theorem hp0_e : hpE hpE0 10 5 0 100 = 0 := by decide +kernel
theorem hp0_f : hpL hpE0 10 5 0 100 = [((0, 10), [(rOne, 1)]), ((5, 15), [(rOne, 1)])] := by kernel_rfl
theorem pts2 {P : List Vp} {a b : Pt} (h : pts P = [a, b]) : ∃ x C, P[1]? = some (x, b.1, C) ∧ cps C = b.2 ∧ P.length = 2 := by
  match P, h with
  | [p, (x, s, C)], h =>
    simp only [pts, List.map_cons, List.map_nil, List.cons.injEq] at h
    obtain ⟨-, h2, -⟩ := h
    exact ⟨x, C, by rw [← h2]; rfl, by rw [← h2], rfl⟩
abbrev oEdges (W : World) : Obj := .cells #[.slice (some ⟨W.heap.size, 0, none⟩) 1 1, .int .i64 3, .int .i64 1, .slice (some ⟨W.heap.size + 1, 0, none⟩) 1 1, .int .i64 7, .int .i64 (-1)] 66
set_option maxHeartbeats 4000000 in
set_option maxRecDepth 100000 in
theorem hpLiveParts (W : World) : Calls Try.prog 32 #[.slice (some ⟨W.heap.size + 1 + 1, 0, none⟩) 2 2, .int .i64 10, .int .i64 5, .int .i64 0, .int .i64 100] (((W.alloc oOne).alloc oOne).alloc (oEdges W)) fun e w' => ∃ v' P, e = .returned (.tuple #[v', .int .i64 0]) ∧ pts P = [((0, 10), [(rOne, 1)]), ((5, 15), [(rOne, 1)])] ∧ OwnP w' W.heap.size v' P ∧ Ext W w' := by
  have h1 : Rw ((W.alloc oOne).alloc oOne) [] (.slice (some ⟨W.heap.size, 0, none⟩) 1 1) rOne := Sl.ext (rwOne W) ((Ext.refl _).alloc _)
  have h2 : Rw ((W.alloc oOne).alloc oOne) [] (.slice (some ⟨W.heap.size + 1, 0, none⟩) 1 1) rOne := by have := rwOne (W.alloc oOne); rwa [World.size_alloc] at this
  have hz2 : ((W.alloc oOne).alloc oOne).heap.size = W.heap.size + 1 + 1 := by simp
  obtain ⟨L, hL⟩ : ∃ L : List Ve, L = [(.slice (some ⟨W.heap.size, 0, none⟩) 1 1, rOne, (3, 1)), (.slice (some ⟨W.heap.size + 1, 0, none⟩) 1 1, rOne, (7, -1))] := ⟨_, rfl⟩
  have hE : eds L = hpE0 := by rw [hL]; rfl
  have hEw : Ew (((W.alloc oOne).alloc oOne).alloc (oEdges W)) [] (.slice (some ⟨W.heap.size + 1 + 1, 0, none⟩) 2 2) L := by
    refine ⟨?_, ?_⟩
    · have := Sl.own (S := []) (World.ownsRow_lit (base := ((W.alloc oOne).alloc oOne).heap.size) (e := 66) (size := 3) ((W.alloc oOne).alloc oOne) #[.slice (some ⟨W.heap.size, 0, none⟩) 1 1, .int .i64 3, .int .i64 1, .slice (some ⟨W.heap.size + 1, 0, none⟩) 1 1, .int .i64 7, .int .i64 (-1)] 2 (Nat.le_refl _) (by decide) rfl) (by simp)
      rw [hL]
      rw [hz2] at this
      exact this
    · intro p hp
      rw [hL] at hp
      simp only [List.mem_cons, List.not_mem_nil, or_false] at hp
      rcases hp with rfl | rfl
      · exact Sl.alloc h1 _
      · exact Sl.alloc h2 _
  have hX : Ext W (((W.alloc oOne).alloc oOne).alloc (oEdges W)) := (((Ext.refl W).alloc _).alloc _).alloc _
  have hp := hpParts_c L 10 5 0 100 _ _ hEw
  rw [hE, hp0_e, hp0_f] at hp
  exact hp.mono fun e w' ⟨v', P, h1, h2, h3, h4⟩ => ⟨v', P, h1, h2, h3.base hX.size, hX.trans h4⟩
set_option maxHeartbeats 8000000 in
set_option maxRecDepth 100000 in
theorem hopLive_c : HopLive := by
  intro w
  have ho := hide (fun w => hopen_c 10 5 12 w)
  have hst := hide (fun w => hstarts_c 10 5 3 7 0 100 (by unfold I64; omega) (by unfold I64; omega) w)
  have hpa := hide hpLiveParts
  rw [hp0_a, hp0_b] at ho
  rw [hp0_c, hp0_d] at hst
  go_enter Try.func26, Try.ntmps26
  go_wp2_with (first
    | (go_at_call 24; refine (ho.out _).mono ?_; rintro ee w3 ⟨rfl, hY⟩; have hx3 := hide hY; clear hY)
    | (go_at_call 27; refine (hst.out _).mono ?_; rintro ee w4 ⟨v4, rfl, ho4, hY⟩; have hx4 := hide (hx3.out.trans hY); have hz4 := hide ho4; obtain ⟨g4, c4, q4, -, l4⟩ := own_block2 ho4 (by decide); subst q4; clear ho4 hY)
    | (go_at_call 32; refine (hpa.out _).mono ?_; rintro ee w5 ⟨v5, P, rfl, hP, ho5, hx5⟩; obtain ⟨x, C, hP1, hC, hPl⟩ := pts2 hP; have ho51 := ho5.1; rw [hPl] at ho51; obtain ⟨g5, c5, q5, -, l5⟩ := own_block2 ho51 (by decide); have hoc := (ho5.2 _ (List.mem_of_getElem? hP1)); simp only at hoc; obtain ⟨XA, xc, rfl⟩ := hoc.form; have hCl := congrArg List.length hC; simp only [List.length_map, List.length_cons, List.length_nil] at hCl; rw [hCl] at hP1; have z4 := World.ownsRow.cellAt (own_ext hz4.out hx5) 1 (by decide); have i4 : In g4 w5 := ⟨Nat.lt_of_lt_of_le l4 hx5.size⟩; subst q5; have y0 := World.ownsRow.cellAt ho51 3 (by decide); have y1 := World.ownsRow.cellAt ho51 4 (by decide); have y2 := World.ownsRow.cellAt ho51 5 (by decide); (have t0 := pt_get P 1 _ hP1 0 _ rfl); (have t1 := pt_get P 1 _ hP1 1 _ rfl); (have t2 := pt_get P 1 _ hP1 2 _ rfl); rw [t0] at y0; rw [t1] at y1; rw [t2] at y2; have i5 : In g5 w5 := ⟨l5⟩; have hx6 := hide (hx4.out.trans hx5); (replace z4 : w5.cell? ⟨g4, 1, none⟩ = some (.int .i64 5) := z4); clear t0 t1 t2 hoc ho51 ho5 hP hP1 hC hPl hCl hx5))
  go_returns
  exact ⟨by first | rfl | simp, hx6.out⟩
end Go.Proofs.Ytjdbjnpomndfjaa
