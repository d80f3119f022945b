/-
  A helper of ours: no claim of its own. Layer 10 (edge), lists only: a row put into rows that rise, at the place where it belongs.
-/
import Derived.Test.YtljkneajdndgjaaHopL
import Derived.Test.YtljkneajdndgjaaCouP
import Derived.Test.YtljkneajdndgjaaEdgS
set_option linter.unusedVariables false
set_option linter.unusedSimpArgs false
namespace Go.Proofs.Ytljkneajdndgjaa
open Go.RowKit
attribute [local go_sem] GW.cell GW.frozen In.eq_true In.le_true In.ne In.ne' In.ne_add In.ne_add' In.lt_add Upto.le_true Upto.le_add Upto.lt_add
def rOne : List Vl := [(1, 1, ⟨#[]⟩)]
def rTwo : List Vl := [(1, 2, ⟨#[]⟩)]
abbrev oOne : Obj := .cells #[.int .i64 1, .int .i64 1, .string ⟨#[]⟩] 48
abbrev oTwo : Obj := .cells #[.int .i64 1, .int .i64 2, .string ⟨#[]⟩] 48
theorem rwOne (w : World) : Rw (w.alloc oOne) [] (.slice (some ⟨w.heap.size, 0, none⟩) 1 1) rOne := Sl.own (World.ownsRow_lit (base := w.heap.size) (e := 48) (size := 3) w #[.int .i64 1, .int .i64 1, .string ⟨#[]⟩] 1 (Nat.le_refl _) (by decide) rfl) (by simp)
theorem rwTwo (w : World) : Rw (w.alloc oTwo) [] (.slice (some ⟨w.heap.size, 0, none⟩) 1 1) rTwo := Sl.own (World.ownsRow_lit (base := w.heap.size) (e := 48) (size := 3) w #[.int .i64 1, .int .i64 2, .string ⟨#[]⟩] 1 (Nat.le_refl _) (by decide) rfl) (by simp)
end Go.Proofs.Ytljkneajdndgjaa
set_option linter.unusedVariables false
set_option linter.unusedSimpArgs false
namespace Go.Proofs.Ytljkneajdndgjaa
open Go.RowKit
attribute [local go_sem] GW.cell GW.frozen In.eq_true In.le_true In.ne In.ne' In.ne_add In.ne_add' In.lt_add Upto.le_true Upto.le_add Upto.lt_add
def cnE0 : List Ed := [(rOne, (2, 1)), (rTwo, (5, 1)), (rTwo, (7, -1)), (rTwo, (8, 1))]
theorem cn0_a : csE cnE0 = 0 := by decide +kernel
theorem cn0_b : csL cnE0 = [2, 5, 8] := by decide +kernel
theorem cn0_c : ssE cnE0 2 6 = 0 := by decide +kernel
theorem cn0_d : coV cnE0 2 6 = 5 := by decide +kernel
theorem cn0_e : cpE cnE0 2 0 = 0 := by decide +kernel
theorem cn0_f : cpL cnE0 2 0 = [((2, 6), [(rOne, 1), (rTwo, 1)]), ((5, 9), [(rTwo, 2)])] := by kernel_rfl
theorem pts2b {P : List Vp} {a b : Pt} (h : pts P = [a, b]) : ∃ x C y D, P = [(x, a.1, C), (y, b.1, D)] ∧ cps C = a.2 ∧ cps D = b.2 := by
  match P, h with
  | [(x, s, C), (y, u, D)], h =>
    simp only [pts, List.map_cons, List.map_nil, List.cons.injEq] at h
    obtain ⟨h1, h2, -⟩ := h
    exact ⟨x, C, y, D, by rw [← h1, ← h2], by rw [← h1], by rw [← h2]⟩
theorem cps1 {C : List Vc} {a : Cp} (h : cps C = [a]) : ∃ x, C = [(x, a)] := by
  match C, h with
  | [(x, b)], h =>
    simp only [List.map_cons, List.map_nil, List.cons.injEq] at h
    exact ⟨x, by rw [← h.1]⟩
set_option maxHeartbeats 8000000 in
set_option maxRecDepth 100000 in
theorem cntLive_c (w : World) : Calls Try.prog 8 #[] w fun e w' => e = .returned (.bool true) ∧ Ext w w' := by
  obtain ⟨W2, hW2⟩ : ∃ W2, W2 = (w.alloc oOne).alloc oTwo := ⟨_, rfl⟩
  have h1 : Rw W2 [] (.slice (some ⟨w.heap.size, 0, none⟩) 1 1) rOne := by rw [hW2]; exact Sl.ext (rwOne w) ((Ext.refl _).alloc _)
  have h2 : Rw W2 [] (.slice (some ⟨w.heap.size + 1, 0, none⟩) 1 1) rTwo := by rw [hW2]; have := rwTwo (w.alloc oOne); rwa [World.size_alloc] at this
  have hz2 : W2.heap.size = w.heap.size + 1 + 1 := by rw [hW2]; simp
  obtain ⟨L, hL⟩ : ∃ L : List Ve, L = [(.slice (some ⟨w.heap.size, 0, none⟩) 1 1, rOne, (2, 1)), (.slice (some ⟨w.heap.size + 1, 0, none⟩) 1 1, rTwo, (5, 1)), (.slice (some ⟨w.heap.size + 1, 0, none⟩) 1 1, rTwo, (7, -1)), (.slice (some ⟨w.heap.size + 1, 0, none⟩) 1 1, rTwo, (8, 1))] := ⟨_, rfl⟩
  have hE : eds L = cnE0 := by rw [hL]; rfl
  have hEw : Ew (W2.alloc (.cells #[.slice (some ⟨w.heap.size, 0, none⟩) 1 1, .int .i64 2, .int .i64 1, .slice (some ⟨w.heap.size + 1, 0, none⟩) 1 1, .int .i64 5, .int .i64 1, .slice (some ⟨w.heap.size + 1, 0, none⟩) 1 1, .int .i64 7, .int .i64 (-1), .slice (some ⟨w.heap.size + 1, 0, none⟩) 1 1, .int .i64 8, .int .i64 1] 52)) [] (.slice (some ⟨W2.heap.size, 0, none⟩) 4 4) L := by
    refine ⟨?_, ?_⟩
    · have := Sl.own (S := []) (World.ownsRow_lit (base := W2.heap.size) (e := 52) (size := 3) W2 #[.slice (some ⟨w.heap.size, 0, none⟩) 1 1, .int .i64 2, .int .i64 1, .slice (some ⟨w.heap.size + 1, 0, none⟩) 1 1, .int .i64 5, .int .i64 1, .slice (some ⟨w.heap.size + 1, 0, none⟩) 1 1, .int .i64 7, .int .i64 (-1), .slice (some ⟨w.heap.size + 1, 0, none⟩) 1 1, .int .i64 8, .int .i64 1] 4 (Nat.le_refl _) (by decide) rfl) (by simp)
      rw [hL]
      exact this
    · intro p hp
      rw [hL] at hp
      simp only [List.mem_cons, List.not_mem_nil, or_false] at hp
      rcases hp with rfl | rfl | rfl | rfl
      · exact Sl.alloc h1 _
      · exact Sl.alloc h2 _
      · exact Sl.alloc h2 _
      · exact Sl.alloc h2 _
  have hX3 : Ext w (W2.alloc (.cells #[.slice (some ⟨w.heap.size, 0, none⟩) 1 1, .int .i64 2, .int .i64 1, .slice (some ⟨w.heap.size + 1, 0, none⟩) 1 1, .int .i64 5, .int .i64 1, .slice (some ⟨w.heap.size + 1, 0, none⟩) 1 1, .int .i64 7, .int .i64 (-1), .slice (some ⟨w.heap.size + 1, 0, none⟩) 1 1, .int .i64 8, .int .i64 1] 52)) := by rw [hW2]; exact (((Ext.refl w).alloc _).alloc _).alloc _
  have hs := hide (fun w' (hX : Ext _ w') => cstarts_c L _ w' (hEw.ext hX))
  have hc := hide (fun w' (hX : Ext _ w') => copen_c L 2 6 _ w' (hEw.ext hX))
  have hp := hide (fun w' (hX : Ext _ w') => cpParts_c L 2 0 _ w' (hEw.ext hX))
  rw [hE, cn0_a, cn0_b] at hs
  rw [hE, cn0_c, cn0_d] at hc
  rw [hE, cn0_e, cn0_f] at hp
  rw [hz2] at hs hc hp
  replace hz2 := hide hz2
  have hW2' := hide hW2
  have hX3' := hide hX3
  clear hEw h1 h2 hL hE hX3
  subst hW2
  clear hW2' hz2
  go_enter Try.func8, Try.ntmps8
  go_wp2_with (first
    | (go_at_call 9; refine (hs.out _ (Ext.refl _)).mono ?_; rintro ee w4 ⟨v4, rfl, ho4, hx4⟩; have hx4' := hide hx4; obtain ⟨A4, c4, q4⟩ := own_form ho4; subst q4; clear ho4 hx4)
    | (go_at_call 11; (with_reducible refine seq_gw (hc.out _ hx4'.out) ?_); intro g4; have hx5 := hide (hx4'.out.trans g4.grown))
    | (go_at_call 13; (refine (hp.out _ hx5.out).mono ?_; rintro ee w5 ⟨v5, P, rfl, hP, ho5, hx6⟩; obtain ⟨x, C, y, D, rfl, hC, hD⟩ := pts2b hP; obtain ⟨z, rfl⟩ := cps1 hD; have ho51 := ho5.1; obtain ⟨g5, c5, q5, -, l5⟩ := own_block2 ho51 (by simp); have hoc := (ho5.2 _ (List.mem_cons_self ..)); have hod := (ho5.2 _ (List.mem_cons_of_mem _ (List.mem_cons_self ..))); simp only at hoc hod; obtain ⟨XA, xc, rfl⟩ := hoc.form; have hod1 := hod.1; obtain ⟨g6, c6, q6, -, l6⟩ := own_block2 hod1 (by simp); subst q5; subst q6; have hCl := congrArg List.length hC; simp only [List.length_map, List.length_cons, List.length_nil] at hCl; (have y0 : w5.cell? ⟨g5, 0, none⟩ = some (.int .i64 2) := World.ownsRow.cellAt ho51 0 (by simp)); (have y1 : w5.cell? ⟨g5, 1, none⟩ = some (.int .i64 6) := World.ownsRow.cellAt ho51 1 (by simp)); (have y2 : w5.cell? ⟨g5, 2, none⟩ = some (.slice XA C.length xc) := World.ownsRow.cellAt ho51 2 (by simp)); rw [hCl] at y2; (have y5 : w5.cell? ⟨g5, 5, none⟩ = some (.slice (some ⟨g6, 0, none⟩) 1 c6) := World.ownsRow.cellAt ho51 5 (by simp)); (have y7 : w5.cell? ⟨g6, 1, none⟩ = some (.int .i64 2) := World.ownsRow.cellAt hod1 1 (by simp)); have i5 : In g5 w5 := ⟨l5⟩; have i6 : In g6 w5 := ⟨l6⟩; have hx7 := hide (hx5.out.trans hx6); clear hoc hod hod1 ho51 ho5 hP hC hD hCl hx6)))
  go_returns
  exact ⟨by first | rfl | simp, hX3'.out.trans hx7.out⟩
end Go.Proofs.Ytljkneajdndgjaa
set_option linter.unusedVariables false
set_option linter.unusedSimpArgs false
namespace Go.Proofs.Ytljkneajdndgjaa
open Go.RowKit
theorem ins_same {rows : List (List Vl)} {r : List Vl} (n : Nat) (h : rows[n]? = some r) : insR rows r = rows := by
  unfold insR
  rw [if_pos (hasR_iff.2 (List.mem_of_getElem? h))]
theorem ins_split {rows : List (List Vl)} {r : List Vl} (hv : ∀ y ∈ rows, mayR y = true) (hr : mayR r = true) (ha : rows.Pairwise rlt) (n : Nat) (h1 : ∀ x ∈ rows.take n, cmpT x r < 0) (h2 : ∀ x, rows[n]? = some x → ¬ cmpT x r < 0) (h3 : rows[n]? ≠ some r) : insR rows r = rows.take n ++ r :: rows.drop n := by
  have key : ∀ x ∈ rows.drop n, 0 < cmpT x r := by
    have hd : (rows.drop n).Pairwise rlt := ha.sublist (List.drop_sublist n rows)
    have h0 : (rows.drop n)[0]? = rows[n]? := by rw [List.getElem?_drop, Nat.add_zero]
    have hsub : ∀ y ∈ rows.drop n, y ∈ rows := fun y hy => List.mem_of_mem_drop hy
    generalize rows.drop n = t at hd h0 hsub
    rcases t with _ | ⟨y, t⟩
    · intro x hx; simp at hx
    · simp only [List.getElem?_cons_zero] at h0
      have hyr : rlt r y := by
        rcases row_ways (hv y (hsub y (by simp))) hr with h | h | h
        · exact absurd h.2 (h2 y h0.symm)
        · exact absurd (h ▸ h0.symm) h3
        · exact h
      intro x hx
      have hrx : rlt r x := by
        rcases List.mem_cons.1 hx with rfl | hx
        · exact hyr
        · exact rlt_trans hyr ((List.pairwise_cons.1 hd).1 x hx)
      have := hrx.2; have := cmpT_swap x r; omega
  have hno : r ∉ rows := by
    intro h
    rw [← List.take_append_drop n rows] at h
    have h0 := cmpT_self hr
    rcases List.mem_append.1 h with h | h
    · have := h1 r h; omega
    · have := key r h; omega
  unfold insR
  rw [if_neg (by rw [hasR_iff]; exact hno)]
  have e1 : rows.filter (fun x => decide (cmpT x r < 0)) = rows.take n := by
    conv => lhs; rw [← List.take_append_drop n rows]
    rw [List.filter_append, List.filter_eq_self.2 (fun x hx => by simpa using h1 x hx), List.filter_eq_nil_iff.2 (fun x hx => by have := key x hx; simp; omega), List.append_nil]
  have e2 : rows.filter (fun x => decide (0 < cmpT x r)) = rows.drop n := by
    conv => lhs; rw [← List.take_append_drop n rows]
    rw [List.filter_append, List.filter_eq_nil_iff.2 (fun x hx => by have := h1 x hx; simp; omega), List.filter_eq_self.2 (fun x hx => by simpa using key x hx), List.nil_append]
  rw [e1, e2]
theorem rowsL_take_succ (l : List Ed) (k : Nat) (e : Ed) (h : l[k]? = some e) : rowsL (l.take (k + 1)) = insR (rowsL (l.take k)) e.1 := by
  rw [List.take_add_one, h, Option.toList_some, rowsL_snoc]
/-- A cell for each row. -/
abbrev Rv := Value × List Vl
abbrev rvs (M : List Rv) : List (List Vl) := M.map Prod.snd
abbrev rcs (M : List Rv) : List Value := M.map Prod.fst

/-- What is asked of each edge, and of two that are neighbours. -/
def okE (e : Ed) : Bool := mayR e.1 && mayJ [e.2]
theorem mayJ_one (j : Jp) : mayJ [j] = okJ j := by
  rw [Bool.eq_iff_iff, mayJ_iff]
  constructor
  · rintro ⟨-, h, -⟩; exact h j (by simp)
  · intro h; exact ⟨by simp, by simpa using h, by simp [Asc]⟩
theorem okE_iff (e : Ed) : okE e = true ↔ mayR e.1 = true ∧ okJ e.2 = true := by unfold okE; rw [Bool.and_eq_true, mayJ_one]
/-- The first n edges are in form, each by itself and behind the one ahead of it. -/
def Chk (l : List Ed) (n : Nat) : Prop := (∀ i e, i < n → l[i]? = some e → okE e = true) ∧ ∀ i a b, i + 1 < n → l[i]? = some a → l[i + 1]? = some b → elt a b
theorem Chk.zero (l : List Ed) : Chk l 0 := ⟨fun i e h => by omega, fun i a b h => by omega⟩
theorem Chk.first {l : List Ed} {e : Ed} (h : l[0]? = some e) (ok : okE e = true) : Chk l 1 :=
  ⟨fun i x hi hx => by obtain rfl : i = 0 := by omega
                       rw [h] at hx; cases hx; exact ok, fun i a b hi => by omega⟩
theorem Chk.next {l : List Ed} {k : Nat} {d e : Ed} (c : Chk l (k + 1)) (hd : l[k]? = some d) (he : l[k + 1]? = some e) (ok : okE e = true) (lt : elt d e) : Chk l (k + 2) := by
  refine ⟨fun i x hi hx => ?_, fun i a b hi ha hb => ?_⟩
  · rcases Nat.lt_or_ge i (k + 1) with h | h
    · exact c.1 i x h hx
    · obtain rfl : i = k + 1 := by omega
      rw [he] at hx; cases hx; exact ok
  · rcases Nat.lt_or_ge (i + 1) (k + 1) with h | h
    · exact c.2 i a b h ha hb
    · obtain rfl : i = k := by omega
      rw [hd] at ha; rw [he] at hb; cases ha; cases hb; exact lt
theorem Chk.pairwise {l : List Ed} (c : Chk l l.length) : l.Pairwise elt := by
  have key : ∀ (m : List Ed), (∀ i a b, m[i]? = some a → m[i + 1]? = some b → elt a b) → m.Pairwise elt := by
    intro m
    induction m with
    | nil => intro _; exact .nil
    | cons a m ih =>
      intro h
      have ih' := ih fun i x y hx hy => h (i + 1) x y (by simpa using hx) (by simpa using hy)
      refine List.pairwise_cons.2 ⟨?_, ih'⟩
      rcases m with _ | ⟨b, m⟩
      · simp
      · have hab := h 0 a b rfl rfl
        intro x hx
        rcases List.mem_cons.1 hx with rfl | hx
        · exact hab
        · exact elt_trans hab ((List.pairwise_cons.1 ih').1 x hx)
  refine key l fun i a b ha hb => c.2 i a b ?_ ha hb
  have := (List.getElem?_eq_some_iff.1 hb).1
  exact this
theorem mayE_elt {l : List Ed} (h : mayE l = true) {i : Nat} {a b : Ed} (ha : l[i]? = some a) (hb : l[i + 1]? = some b) : elt a b := by
  obtain ⟨-, -, h3, -⟩ := mayE_doc.1 h
  obtain ⟨q, rfl⟩ := List.getElem?_eq_some_iff.1 ha
  obtain ⟨q', rfl⟩ := List.getElem?_eq_some_iff.1 hb
  exact List.pairwise_iff_getElem.1 h3 i (i + 1) q q' (by omega)
theorem mayE_okE {l : List Ed} (h : mayE l = true) {e : Ed} (he : e ∈ l) : okE e = true := (okE_iff e).2 ((mayE_doc.1 h).2.1 e he)
theorem mayE_chk {l : List Ed} (hl : l.length ≤ 4096) (c : Chk l l.length) (h : ∀ r ∈ rowsL l, (jmps l r).length ≤ 1024) : mayE l = true := by
  refine mayE_doc.2 ⟨hl, fun e he => ?_, c.pairwise, h⟩
  obtain ⟨i, hi⟩ := List.getElem?_of_mem he
  exact (okE_iff e).1 (c.1 i e (List.getElem?_eq_some_iff.1 hi).1 hi)
theorem Chk.rows {l : List Ed} (c : Chk l l.length) : ∀ e ∈ l, mayR e.1 = true := fun e he => by
  obtain ⟨i, hi⟩ := List.getElem?_of_mem he
  exact ((okE_iff e).1 (c.1 i e (List.getElem?_eq_some_iff.1 hi).1 hi)).1
theorem mayE_false {l : List Ed} (h : mayE l = true → False) : mayE l = false := by
  cases hh : mayE l
  · rfl
  · exact (h hh).elim
/-- Which rows' jumps a table asks about. -/
theorem tabE_rows {l : List Ed} (h : mayE l = true) : tabE l = (rowsL l).all fun r => decide (0 ≤ leV (jmps l r)) := by
  unfold tabE
  rw [h, Bool.true_and, grp_eq (mayE_rise h)]
  unfold byRows
  rw [List.all_map]
  rfl
end Go.Proofs.Ytljkneajdndgjaa
