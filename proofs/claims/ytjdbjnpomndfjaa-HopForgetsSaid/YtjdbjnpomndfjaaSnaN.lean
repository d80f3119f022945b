/-
  A helper of ours: no claim of its own. Windows that are the same, by the document.
-/
import Derived.Test.YtjdbjnpomndfjaaRowS
import Derived.Test.YtjdbjnpomndfjaaHopF
import Derived.Test.YtjdbjnpomndfjaaSnaF
import Derived.Test.YtjdbjnpomndfjaaHopL
import Derived.Test.YtjdbjnpomndfjaaSnaM
import Derived.Test.YtjdbjnpomndfjaaRowC
set_option linter.unusedVariables false
set_option linter.unusedSimpArgs false
namespace Go.Proofs.Ytjdbjnpomndfjaa
open Go.RowKit
attribute [local go_sem] GW.cell GW.frozen In.eq_true In.le_true In.ne In.ne' In.ne_add In.ne_add' In.lt_add Upto.le_true Upto.le_add Upto.lt_add
end Go.Proofs.Ytjdbjnpomndfjaa
set_option linter.unusedVariables false
set_option linter.unusedSimpArgs false
namespace Go.Proofs.Ytjdbjnpomndfjaa
open Go.RowKit
attribute [local go_sem] GW.cell GW.frozen In.eq_true In.le_true In.ne In.ne' In.ne_add In.ne_add' In.lt_add Upto.le_true Upto.le_add Upto.lt_add
def rOne : List Vl := [(1, 1, ⟨#[]⟩)]
abbrev oOne : Obj := .cells #[.int .i64 1, .int .i64 1, .string ⟨#[]⟩] 62
theorem rwOne (w : World) : Rw (w.alloc oOne) [] (.slice (some ⟨w.heap.size, 0, none⟩) 1 1) rOne := Sl.own (World.ownsRow_lit (base := w.heap.size) (e := 62) (size := 3) w #[.int .i64 1, .int .i64 1, .string ⟨#[]⟩] 1 (Nat.le_refl _) (by decide) rfl) (by simp)
end Go.Proofs.Ytjdbjnpomndfjaa
set_option linter.unusedVariables false
set_option linter.unusedSimpArgs false
namespace Go.Proofs.Ytjdbjnpomndfjaa
open Go.RowKit
attribute [local go_sem] GW.cell GW.frozen In.eq_true In.le_true In.ne In.ne' In.ne_add In.ne_add' In.lt_add Upto.le_true Upto.le_add Upto.lt_add
def hpE0 : List Ed := [(rOne, (3, 1)), (rOne, (7, -1))]
theorem hp0_a : hopV 10 5 12 = 5 := by decide +kernel
theorem hp0_b : hopE 10 5 12 = 0 := by decide +kernel
theorem hp0_c : hsE 10 5 3 7 0 100 = 0 := by decide +kernel
theorem hp0_d : hsL 10 5 3 7 0 100 = [0, 5] := by decide +kernel
theorem hp0_e : hpE hpE0 10 5 0 100 = 0 := by decide +kernel
theorem hp0_f : hpL hpE0 10 5 0 100 = [((0, 10), [(rOne, 1)]), ((5, 15), [(rOne, 1)])] := by kernel_rfl
theorem pts2 {P : List Vp} {a b : Pt} (h : pts P = [a, b]) : ∃ x C, P[1]? = some (x, b.1, C) ∧ cps C = b.2 ∧ P.length = 2 := by
  match P, h with
  | [p, (x, s, C)], h =>
    simp only [pts, List.map_cons, List.map_nil, List.cons.injEq] at h
    obtain ⟨-, h2, -⟩ := h
    exact ⟨x, C, by rw [← h2]; rfl, by rw [← h2], rfl⟩
abbrev oEdges (W : World) : Obj := .cells #[.slice (some ⟨W.heap.size, 0, none⟩) 1 1, .int .i64 3, .int .i64 1, .slice (some ⟨W.heap.size + 1, 0, none⟩) 1 1, .int .i64 7, .int .i64 (-1)] 66
set_option maxHeartbeats 4000000 in
set_option maxRecDepth 100000 in
theorem hpLiveParts (W : World) : Calls Try.prog 32 #[.slice (some ⟨W.heap.size + 1 + 1, 0, none⟩) 2 2, .int .i64 10, .int .i64 5, .int .i64 0, .int .i64 100] (((W.alloc oOne).alloc oOne).alloc (oEdges W)) fun e w' => ∃ v' P, e = .returned (.tuple #[v', .int .i64 0]) ∧ pts P = [((0, 10), [(rOne, 1)]), ((5, 15), [(rOne, 1)])] ∧ OwnP w' W.heap.size v' P ∧ Ext W w' := by
  have h1 : Rw ((W.alloc oOne).alloc oOne) [] (.slice (some ⟨W.heap.size, 0, none⟩) 1 1) rOne := Sl.ext (rwOne W) ((Ext.refl _).alloc _)
  have h2 : Rw ((W.alloc oOne).alloc oOne) [] (.slice (some ⟨W.heap.size + 1, 0, none⟩) 1 1) rOne := by have := rwOne (W.alloc oOne); rwa [World.size_alloc] at this
  have hz2 : ((W.alloc oOne).alloc oOne).heap.size = W.heap.size + 1 + 1 := by simp
  obtain ⟨L, hL⟩ : ∃ L : List Ve, L = [(.slice (some ⟨W.heap.size, 0, none⟩) 1 1, rOne, (3, 1)), (.slice (some ⟨W.heap.size + 1, 0, none⟩) 1 1, rOne, (7, -1))] := ⟨_, rfl⟩
  have hE : eds L = hpE0 := by rw [hL]; rfl
  have hEw : Ew (((W.alloc oOne).alloc oOne).alloc (oEdges W)) [] (.slice (some ⟨W.heap.size + 1 + 1, 0, none⟩) 2 2) L := by
    refine ⟨?_, ?_⟩
    · have := Sl.own (S := []) (World.ownsRow_lit (base := ((W.alloc oOne).alloc oOne).heap.size) (e := 66) (size := 3) ((W.alloc oOne).alloc oOne) #[.slice (some ⟨W.heap.size, 0, none⟩) 1 1, .int .i64 3, .int .i64 1, .slice (some ⟨W.heap.size + 1, 0, none⟩) 1 1, .int .i64 7, .int .i64 (-1)] 2 (Nat.le_refl _) (by decide) rfl) (by simp)
      rw [hL]
      rw [hz2] at this
      exact this
    · intro p hp
      rw [hL] at hp
      simp only [List.mem_cons, List.not_mem_nil, or_false] at hp
      rcases hp with rfl | rfl
      · exact Sl.alloc h1 _
      · exact Sl.alloc h2 _
  have hX : Ext W (((W.alloc oOne).alloc oOne).alloc (oEdges W)) := (((Ext.refl W).alloc _).alloc _).alloc _
  have hp := hpParts_c L 10 5 0 100 _ _ hEw
  rw [hE, hp0_e, hp0_f] at hp
  exact hp.mono fun e w' ⟨v', P, h1, h2, h3, h4⟩ => ⟨v', P, h1, h2, h3.base hX.size, hX.trans h4⟩
set_option maxHeartbeats 8000000 in
set_option maxRecDepth 100000 in
theorem hopLive_c : HopLive := by
  intro w
  have ho := hide (fun w => hopen_c 10 5 12 w)
  have hst := hide (fun w => hstarts_c 10 5 3 7 0 100 (by unfold I64; omega) (by unfold I64; omega) w)
  have hpa := hide hpLiveParts
  rw [hp0_a, hp0_b] at ho
  rw [hp0_c, hp0_d] at hst
  go_enter Try.func26, Try.ntmps26
  go_wp2_with (first
    | (go_at_call 24; refine (ho.out _).mono ?_; rintro ee w3 ⟨rfl, hY⟩; have hx3 := hide hY; clear hY)
    | (go_at_call 27; refine (hst.out _).mono ?_; rintro ee w4 ⟨v4, rfl, ho4, hY⟩; have hx4 := hide (hx3.out.trans hY); have hz4 := hide ho4; obtain ⟨g4, c4, q4, -, l4⟩ := own_block2 ho4 (by decide); subst q4; clear ho4 hY)
    | (go_at_call 32; refine (hpa.out _).mono ?_; rintro ee w5 ⟨v5, P, rfl, hP, ho5, hx5⟩; obtain ⟨x, C, hP1, hC, hPl⟩ := pts2 hP; have ho51 := ho5.1; rw [hPl] at ho51; obtain ⟨g5, c5, q5, -, l5⟩ := own_block2 ho51 (by decide); have hoc := (ho5.2 _ (List.mem_of_getElem? hP1)); simp only at hoc; obtain ⟨XA, xc, rfl⟩ := hoc.form; have hCl := congrArg List.length hC; simp only [List.length_map, List.length_cons, List.length_nil] at hCl; rw [hCl] at hP1; have z4 := World.ownsRow.cellAt (own_ext hz4.out hx5) 1 (by decide); have i4 : In g4 w5 := ⟨Nat.lt_of_lt_of_le l4 hx5.size⟩; subst q5; have y0 := World.ownsRow.cellAt ho51 3 (by decide); have y1 := World.ownsRow.cellAt ho51 4 (by decide); have y2 := World.ownsRow.cellAt ho51 5 (by decide); (have t0 := pt_get P 1 _ hP1 0 _ rfl); (have t1 := pt_get P 1 _ hP1 1 _ rfl); (have t2 := pt_get P 1 _ hP1 2 _ rfl); rw [t0] at y0; rw [t1] at y1; rw [t2] at y2; have i5 : In g5 w5 := ⟨l5⟩; have hx6 := hide (hx4.out.trans hx5); (replace z4 : w5.cell? ⟨g4, 1, none⟩ = some (.int .i64 5) := z4); clear t0 t1 t2 hoc ho51 ho5 hP hP1 hC hPl hCl hx5))
  go_returns
  exact ⟨by first | rfl | simp, hx6.out⟩
end Go.Proofs.Ytjdbjnpomndfjaa
set_option linter.unusedVariables false
set_option linter.unusedSimpArgs false
namespace Go.Proofs.Ytjdbjnpomndfjaa
open Go.RowKit
attribute [local go_sem] GW.cell GW.frozen In.eq_true In.le_true In.ne In.ne' In.ne_add In.ne_add' In.lt_add Upto.le_true Upto.le_add Upto.lt_add
theorem cps_at {L M : List Vc} (h : cps L = cps M) {k : Nat} {c d : Vc} (hc : L[k]? = some c) (hd : M[k]? = some d) : c.2 = d.2 := by
  have h1 : (cps L)[k]? = (cps M)[k]? := by rw [h]
  rw [List.getElem?_map, List.getElem?_map, hc, hd] at h1
  simpa using h1
set_option maxHeartbeats 8000000 in
set_option maxRecDepth 100000 in
theorem refSameCopies_c (L M : List Vc) (hLM : cps L = cps M) (v u : Value) (w : World) (hL : Cw w [] v L) (hM : Cw w [] u M) : Calls Try.prog 22 #[v, u] w fun e w' => e = .returned (.bool true) ∧ Ext w w' := by
  have hlen : M.length = L.length := by have := congrArg List.length hLM; simpa using this.symm
  have hL' := hide hL
  have hM' := hide hM
  obtain ⟨A, cap, rfl, hlc, hlm, -⟩ := cw_form hL
  obtain ⟨A2, cap2, rfl, -, -, -⟩ := cw_form hM
  unfold maxLen at hlm
  rw [hlen] at hM' ⊢
  have hMh := hide hlen
  clear hL hM hlen
  have hnn : ((L.length : Int) != (L.length : Int)) = false := by simp
  go_enter Try.func22, Try.ntmps22
  go_wp2_with fail
  go_loopg [5] L.length (fun gh i wr => ∃ (k : Nat), i = .int .i64 k ∧ k + gh = L.length ∧ Hid (Ext w wr))
  case atStart => exact ⟨0, by go_num, by omega, Ext.refl _⟩
  case round =>
    obtain ⟨k, rfl, hk, hX⟩ := hrel
    by_cases hlt : k < L.length
    · obtain ⟨⟨x, q, n⟩, hd⟩ : ∃ p, L[k]? = some p := ⟨_, List.getElem?_eq_getElem hlt⟩
      obtain ⟨⟨y, q2, n2⟩, hd2⟩ : ∃ p, M[k]? = some p := ⟨_, List.getElem?_eq_getElem (by rw [hMh.out]; exact hlt)⟩
      have e := cps_at hLM hd hd2
      simp only [Prod.mk.injEq] at e
      obtain ⟨rfl, rfl⟩ := e
      obtain ⟨A', cap', e', -, -, hat⟩ := cw_form (hL'.out.ext hX.out)
      simp only [Value.slice.injEq] at e'
      obtain ⟨rfl, -, rfl⟩ := e'
      obtain ⟨b, o, rfl, -, hbl, c0, c1⟩ := hat k _ hd
      obtain ⟨A', cap', e', -, -, hat2⟩ := cw_form (hM'.out.ext hX.out)
      simp only [Value.slice.injEq] at e'
      obtain ⟨rfl, -, rfl⟩ := e'
      obtain ⟨b2, o2, rfl, -, hbl2, d0, d1⟩ := hat2 k _ hd2
      have hr := (hL'.out.ext hX.out).2 _ (List.mem_of_getElem? hd)
      have hr2 := (hM'.out.ext hX.out).2 _ (List.mem_of_getElem? hd2)
      simp only at hr hr2 c0 c1 d0 d1
      obtain ⟨RA, rcap, rfl⟩ := rw_val hr
      obtain ⟨RB, rcap2, rfl⟩ := rw_val hr2
      have hs := hide (fun (g : GW wr) => refRowSame_c (Sl.ext hr g.grown) (Sl.ext hr2 g.grown))
      rw [decide_eq_true rfl] at hs
      haveI : In b wr := ⟨hbl⟩
      haveI : In b2 wr := ⟨hbl2⟩
      have hn2 : (n != n) = false := by simp
      clear hat hat2 hd hd2 hr hr2 hLM
      go_wp2_with fail
      refine wp_region_gw (by kernel_rfl) (by kernel_rfl) ?_
      repeat (go_big_quiet_step ((go_at_call 54; with_reducible exact quiet_gw (hs.out _))))
      refine wpQuiet_nil ?_
      intro g8
      go_wp2_with fail
      go_roundg (L.length - (k + 1))
      case measure => omega
      case rel => exact ⟨k + 1, by go_num, by omega, hX.out.trans g8.grown⟩
    · go_wp2_with fail
      go_returns
      exact ⟨rfl, hX.out⟩
theorem pts_at {L M : List Vp} (h : pts L = pts M) {k : Nat} {c d : Vp} (hc : L[k]? = some c) (hd : M[k]? = some d) : c.2.1 = d.2.1 ∧ cps c.2.2 = cps d.2.2 := by
  have h1 : (pts L)[k]? = (pts M)[k]? := by rw [h]
  rw [List.getElem?_map, List.getElem?_map, hc, hd] at h1
  simpa using h1
theorem cw_val {w : World} {S : List Nat} {v : Value} {l : List Vc} (h : Cw w S v l) : ∃ A cap, v = .slice A l.length cap := by obtain ⟨A, cap, e, _⟩ := h.1; exact ⟨A, cap, e⟩
set_option maxHeartbeats 8000000 in
set_option maxRecDepth 100000 in
theorem refSameParts_c (L M : List Vp) (hLM : pts L = pts M) (v u : Value) (w : World) (hL : Pw w [] v L) (hM : Pw w [] u M) : Calls Try.prog 21 #[v, u] w fun e w' => e = .returned (.bool true) ∧ Ext w w' := by
  have hlen : M.length = L.length := by have := congrArg List.length hLM; simpa using this.symm
  have hL' := hide hL
  have hM' := hide hM
  obtain ⟨A, cap, rfl, hlc, hlm, -⟩ := pw_form hL
  obtain ⟨A2, cap2, rfl, -, -, -⟩ := pw_form hM
  unfold maxLen at hlm
  rw [hlen] at hM' ⊢
  have hMh := hide hlen
  clear hL hM hlen
  have hnn : ((L.length : Int) != (L.length : Int)) = false := by simp
  go_enter Try.func21, Try.ntmps21
  go_wp2_with fail
  go_loopg [5] L.length (fun gh i wr => ∃ (k : Nat), i = .int .i64 k ∧ k + gh = L.length ∧ Hid (Ext w wr))
  case atStart => exact ⟨0, by go_num, by omega, Ext.refl _⟩
  case round =>
    obtain ⟨k, rfl, hk, hX⟩ := hrel
    by_cases hlt : k < L.length
    · obtain ⟨⟨x, ⟨s, t⟩, C⟩, hd⟩ : ∃ p, L[k]? = some p := ⟨_, List.getElem?_eq_getElem hlt⟩
      obtain ⟨⟨y, ⟨s2, t2⟩, C2⟩, hd2⟩ : ∃ p, M[k]? = some p := ⟨_, List.getElem?_eq_getElem (by rw [hMh.out]; exact hlt)⟩
      have e := pts_at hLM hd hd2
      simp only [Prod.mk.injEq] at e
      obtain ⟨⟨rfl, rfl⟩, hcc⟩ := e
      obtain ⟨A', cap', e', -, -, hat⟩ := pw_form (hL'.out.ext hX.out)
      simp only [Value.slice.injEq] at e'
      obtain ⟨rfl, -, rfl⟩ := e'
      obtain ⟨b, o, rfl, -, hbl, c0, c1, c2⟩ := hat k _ hd
      obtain ⟨A', cap', e', -, -, hat2⟩ := pw_form (hM'.out.ext hX.out)
      simp only [Value.slice.injEq] at e'
      obtain ⟨rfl, -, rfl⟩ := e'
      obtain ⟨b2, o2, rfl, -, hbl2, d0, d1, d2⟩ := hat2 k _ hd2
      have hr := (hL'.out.ext hX.out).2 _ (List.mem_of_getElem? hd)
      have hr2 := (hM'.out.ext hX.out).2 _ (List.mem_of_getElem? hd2)
      simp only at hr hr2 c0 c1 c2 d0 d1 d2
      obtain ⟨RA, rcap, rfl⟩ := cw_val hr
      obtain ⟨RB, rcap2, rfl⟩ := cw_val hr2
      have hs := hide (fun (g : GW wr) => refSameCopies_c C C2 hcc _ _ g.val (hr.ext g.grown) (hr2.ext g.grown))
      haveI : In b wr := ⟨hbl⟩
      haveI : In b2 wr := ⟨hbl2⟩
      have hn2 : (s != s) = false := by simp
      have hn3 : (t != t) = false := by simp
      clear hat hat2 hd hd2 hr hr2 hLM hcc
      go_wp2_with fail
      refine wp_region_gw (by kernel_rfl) (by kernel_rfl) ?_
      repeat (go_big_quiet_step ((go_at_call 22; with_reducible exact quiet_gw (hs.out _))))
      refine wpQuiet_nil ?_
      intro g8
      go_wp2_with fail
      go_roundg (L.length - (k + 1))
      case measure => omega
      case rel => exact ⟨k + 1, by go_num, by omega, hX.out.trans g8.grown⟩
    · go_wp2_with fail
      go_returns
      exact ⟨rfl, hX.out⟩
end Go.Proofs.Ytjdbjnpomndfjaa
