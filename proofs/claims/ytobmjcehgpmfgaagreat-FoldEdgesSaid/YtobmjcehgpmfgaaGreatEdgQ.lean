/-
  A helper of ours: no claim of its own. Layer 10 (edge), lists only: a row put into rows that rise, at the place where it belongs.
-/
import Derived.Test.YtobmjcehgpmfgaaGreatFolEd
import Derived.Test.YtobmjcehgpmfgaaGreatFolW
import Derived.Test.YtobmjcehgpmfgaaGreatEdgN
import Derived.Test.YtobmjcehgpmfgaaGreatEdgS
set_option linter.unusedVariables false
set_option linter.unusedSimpArgs false
namespace Go.Proofs.YtobmjcehgpmfgaaGreat
open Go.RowKit
attribute [local go_sem] GW.cell GW.frozen In.eq_true In.le_true In.ne In.ne' In.ne_add In.ne_add' In.lt_add Upto.le_true Upto.le_add Upto.lt_add
set_option maxHeartbeats 1000000 in
theorem isLife_c (a b : Int) (w : World) : Calls Tryz.prog 106 #[.agg #[.int .i64 a, .int .i64 b]] w fun e w' => e = .returned (.bool (lifeB (a, b))) ∧ Ext w w' := by
  have hm := hide (fun w => smay_c a b w)
  have hn := hide (fun w => foldNone_c a b w)
  obtain ⟨R, hR⟩ : ∃ R, R = lifeB (a, b) := ⟨_, rfl⟩
  rw [← hR]
  unfold lifeB spanB at hR
  simp only [Prod.mk.injEq] at hR
  generalize decide (a = 0 ∧ b = 0) = N at *
  cases h : smayB a b
  · rw [h, Bool.false_or] at hR
    rw [h] at hm
    subst hR
    go_enter Tryz.func106, Tryz.ntmps106
    go_wp2_with (first | (go_at_call 172; first | ((with_reducible refine seq_gw' (hm.out _) ?_); intro g) | ((with_reducible refine seq_gw (hm.out _) ?_); intro g)) | (go_at_call 168; first | ((with_reducible refine seq_gw' (hn.out _) ?_); intro g2) | ((with_reducible refine seq_gw (hn.out _) ?_); intro g2)))
    go_returns
    exact ⟨rfl, Gn.ext⟩
  · rw [h, Bool.true_or] at hR
    rw [h] at hm
    subst hR
    clear hn
    go_enter Tryz.func106, Tryz.ntmps106
    go_wp2_with (go_at_call 172; first | ((with_reducible refine seq_gw' (hm.out _) ?_); intro g) | ((with_reducible refine seq_gw (hm.out _) ?_); intro g))
    go_returns
    exact ⟨rfl, Gn.ext⟩
def fdE (q : List Vl) (o n : Spn) : Int := if mayR q then (if lifeB o && lifeB n then 0 else 14) else 2
def fdR (q : List Vl) (o n : Spn) : List Ed := if fdE q o n = 0 then (nmL (chJ o n)).map fun j => (q, j) else []
abbrev L4 (V : Value) (q : List Vl) (o n : Spn) : List Ve := [(V, q, (n.1, 1)), (V, q, (n.2, -1)), (V, q, (o.1, -1)), (V, q, (o.2, 1))]
abbrev o4 (V : Value) (o n : Spn) : Obj := .cells #[V, .int .i64 n.1, .int .i64 1, V, .int .i64 n.2, .int .i64 (-1), V, .int .i64 o.1, .int .i64 (-1), V, .int .i64 o.2, .int .i64 1] 115
theorem ew_four {W : World} {V : Value} {q : List Vl} {o n : Spn} (h : Rw W [] V q) : Ew (W.alloc (o4 V o n)) [] (.slice (some ⟨W.heap.size, 0, none⟩) 4 4) (L4 V q o n) :=
  ⟨Sl.own (World.ownsRow_lit (base := W.heap.size) (e := 115) (size := 3) W #[V, .int .i64 n.1, .int .i64 1, V, .int .i64 n.2, .int .i64 (-1), V, .int .i64 o.1, .int .i64 (-1), V, .int .i64 o.2, .int .i64 1] 4 (Nat.le_refl _) (by decide) rfl) (by simp), fun p hp => by
    simp only [List.mem_cons, List.not_mem_nil, or_false] at hp
    rcases hp with rfl | rfl | rfl | rfl <;> exact Sl.alloc h _⟩
set_option maxHeartbeats 8000000 in
set_option maxRecDepth 100000 in
theorem foldEdges_c (s o1 o2 n1 n2 : Int) (q : List Vl) (u : Value) (w : World) (hu : Rw w [] u q) : Calls Tryz.prog 44 #[.agg #[.int .i64 s, u, .int .i64 o1, .int .i64 o2, .int .i64 n1, .int .i64 n2]] w fun e w' => ∃ v' M, e = .returned (.tuple #[v', .int .i64 (fdE q (o1, o2) (n1, n2))]) ∧ eds M = fdR q (o1, o2) (n1, n2) ∧ OwnEr w' w.heap.size v' M ∧ Ext w w' := by
  have hmay := hide (fun w' (hx : Ext w w') => rowMay_c q u w' (Sl.ext hu hx))
  have hlo := hide (fun w => isLife_c o1 o2 w)
  have hln := hide (fun w => isLife_c n1 n2 w)
  obtain ⟨UA, uc, eu⟩ := rw_val hu
  subst eu
  have hur := hide hu
  obtain ⟨E, hE⟩ : ∃ E, E = fdE q (o1, o2) (n1, n2) := ⟨_, rfl⟩
  have hRe : fdR q (o1, o2) (n1, n2) = if E = 0 then (nmL (chJ (o1, o2) (n1, n2))).map fun j => (q, j) else [] := by rw [hE]; rfl
  rw [hRe, ← hE]
  clear hRe hu
  unfold fdE at hE
  cases hm : mayR q
  · rw [hm] at hmay hE
    rw [if_neg (by decide)] at hE
    subst hE
    generalize q.length = ql at *
    go_enter Tryz.func44, Tryz.ntmps44
    go_wp2_with (go_at_call 105; first | ((with_reducible refine seq_gw' (hmay.out _ Gn.ext) ?_); intro g) | ((with_reducible refine seq_gw (hmay.out _ Gn.ext) ?_); intro g))
    go_returns
    first | exact ⟨_, rfl, OwnEr.nil _ _, Gn.ext⟩ | exact ⟨_, rfl, [], rfl, OwnEr.nil _ _, Gn.ext⟩ | exact ⟨_, [], rfl, rfl, OwnEr.nil _ _, Gn.ext⟩
  rw [hm] at hmay hE
  rw [if_pos rfl] at hE
  cases ho : lifeB (o1, o2)
  · rw [ho] at hlo hE
    rw [Bool.false_and, if_neg (by decide)] at hE
    subst hE
    generalize q.length = ql at *
    go_enter Tryz.func44, Tryz.ntmps44
    go_wp2_with (first | (go_at_call 105; first | ((with_reducible refine seq_gw' (hmay.out _ Gn.ext) ?_); intro g) | ((with_reducible refine seq_gw (hmay.out _ Gn.ext) ?_); intro g)) | (go_at_call 106; first | ((with_reducible refine seq_gw' (hlo.out _) ?_); intro g2) | ((with_reducible refine seq_gw (hlo.out _) ?_); intro g2)))
    go_returns
    first | exact ⟨_, rfl, OwnEr.nil _ _, Gn.ext⟩ | exact ⟨_, rfl, [], rfl, OwnEr.nil _ _, Gn.ext⟩ | exact ⟨_, [], rfl, rfl, OwnEr.nil _ _, Gn.ext⟩
  cases hn : lifeB (n1, n2)
  · rw [ho] at hlo hE
    rw [hn] at hln hE
    rw [Bool.and_false, if_neg (by decide)] at hE
    subst hE
    generalize q.length = ql at *
    go_enter Tryz.func44, Tryz.ntmps44
    go_wp2_with (first | (go_at_call 105; first | ((with_reducible refine seq_gw' (hmay.out _ Gn.ext) ?_); intro g) | ((with_reducible refine seq_gw (hmay.out _ Gn.ext) ?_); intro g)) | (go_at_call 106; first | ((with_reducible refine seq_gw' (hlo.out _) ?_); intro g2) | ((with_reducible refine seq_gw (hlo.out _) ?_); intro g2) | ((with_reducible refine seq_gw' (hln.out _) ?_); intro g3) | ((with_reducible refine seq_gw (hln.out _) ?_); intro g3)))
    go_returns
    first | exact ⟨_, rfl, OwnEr.nil _ _, Gn.ext⟩ | exact ⟨_, rfl, [], rfl, OwnEr.nil _ _, Gn.ext⟩ | exact ⟨_, [], rfl, rfl, OwnEr.nil _ _, Gn.ext⟩
  · rw [ho] at hlo hE
    rw [hn] at hln hE
    rw [Bool.and_self, if_pos rfl] at hE
    subst hE
    rw [if_pos rfl]
    have hne := ne_one q hm (chJ (o1, o2) (n1, n2)) (chJ_fine ho hn) (ch_may ho hn)
    have hnorm := hide (fun w' (hx : Ext w w') => edgeNorm_c (L4 (.slice UA q.length uc) q (o1, o2) (n1, n2)) (by simp) (fun r => Nat.le_trans (jmps_le _ r) (by simp [eds])) _ _ (ew_four (o := (o1, o2)) (n := (n1, n2)) (Sl.ext hur.out hx)))
    have e4 : ∀ V, eds (L4 V q (o1, o2) (n1, n2)) = (chJ (o1, o2) (n1, n2)).map fun j => (q, j) := fun V => rfl
    simp only [e4, hne.1, hne.2] at hnorm
    generalize ((nmL (chJ (o1, o2) (n1, n2))).map fun j => (q, j)) = R at *
    clear hne e4
    go_enter Tryz.func44, Tryz.ntmps44
    go_wp2_with (first | (go_at_call 105; first | ((with_reducible refine seq_gw' (hmay.out _ Gn.ext) ?_); intro g) | ((with_reducible refine seq_gw (hmay.out _ Gn.ext) ?_); intro g)) | (go_at_call 106; first | ((with_reducible refine seq_gw' (hlo.out _) ?_); intro g2) | ((with_reducible refine seq_gw (hlo.out _) ?_); intro g2) | ((with_reducible refine seq_gw' (hln.out _) ?_); intro g3) | ((with_reducible refine seq_gw (hln.out _) ?_); intro g3)) | (go_at_call 107; (refine (hnorm.out _ Gn.ext).mono ?_; rintro ee w5 ⟨v5, M5, rfl, hM5, ho5, hx5⟩; obtain ⟨A5, c5, e5⟩ := own_form ho5.1; subst e5; have hxx := hide ((Gn.ext (w := w)).trans hx5); replace hM5 := hide hM5; replace ho5 := hide ho5; clear hx5)))
    go_returns
    first | exact ⟨_, rfl, M5, hM5.out, ho5.out.lower (Gn.ext (w := w)).size, hxx.out⟩ | exact ⟨_, M5, rfl, hM5.out, ho5.out.lower (Gn.ext (w := w)).size, hxx.out⟩
end Go.Proofs.YtobmjcehgpmfgaaGreat
set_option linter.unusedVariables false
set_option linter.unusedSimpArgs false
namespace Go.Proofs.YtobmjcehgpmfgaaGreat
open Go.RowKit
theorem ins_same {rows : List (List Vl)} {r : List Vl} (n : Nat) (h : rows[n]? = some r) : insR rows r = rows := by
  unfold insR
  rw [if_pos (hasR_iff.2 (List.mem_of_getElem? h))]
theorem ins_split {rows : List (List Vl)} {r : List Vl} (hv : ∀ y ∈ rows, mayR y = true) (hr : mayR r = true) (ha : rows.Pairwise rlt) (n : Nat) (h1 : ∀ x ∈ rows.take n, cmpT x r < 0) (h2 : ∀ x, rows[n]? = some x → ¬ cmpT x r < 0) (h3 : rows[n]? ≠ some r) : insR rows r = rows.take n ++ r :: rows.drop n := by
  have key : ∀ x ∈ rows.drop n, 0 < cmpT x r := by
    have hd : (rows.drop n).Pairwise rlt := ha.sublist (List.drop_sublist n rows)
    have h0 : (rows.drop n)[0]? = rows[n]? := by rw [List.getElem?_drop, Nat.add_zero]
    have hsub : ∀ y ∈ rows.drop n, y ∈ rows := fun y hy => List.mem_of_mem_drop hy
    generalize rows.drop n = t at hd h0 hsub
    rcases t with _ | ⟨y, t⟩
    · intro x hx; simp at hx
    · simp only [List.getElem?_cons_zero] at h0
      have hyr : rlt r y := by
        rcases row_ways (hv y (hsub y (by simp))) hr with h | h | h
        · exact absurd h.2 (h2 y h0.symm)
        · exact absurd (h ▸ h0.symm) h3
        · exact h
      intro x hx
      have hrx : rlt r x := by
        rcases List.mem_cons.1 hx with rfl | hx
        · exact hyr
        · exact rlt_trans hyr ((List.pairwise_cons.1 hd).1 x hx)
      have := hrx.2; have := cmpT_swap x r; omega
  have hno : r ∉ rows := by
    intro h
    rw [← List.take_append_drop n rows] at h
    have h0 := cmpT_self hr
    rcases List.mem_append.1 h with h | h
    · have := h1 r h; omega
    · have := key r h; omega
  unfold insR
  rw [if_neg (by rw [hasR_iff]; exact hno)]
  have e1 : rows.filter (fun x => decide (cmpT x r < 0)) = rows.take n := by
    conv => lhs; rw [← List.take_append_drop n rows]
    rw [List.filter_append, List.filter_eq_self.2 (fun x hx => by simpa using h1 x hx), List.filter_eq_nil_iff.2 (fun x hx => by have := key x hx; simp; omega), List.append_nil]
  have e2 : rows.filter (fun x => decide (0 < cmpT x r)) = rows.drop n := by
    conv => lhs; rw [← List.take_append_drop n rows]
    rw [List.filter_append, List.filter_eq_nil_iff.2 (fun x hx => by have := h1 x hx; simp; omega), List.filter_eq_self.2 (fun x hx => by simpa using key x hx), List.nil_append]
  rw [e1, e2]
theorem rowsL_take_succ (l : List Ed) (k : Nat) (e : Ed) (h : l[k]? = some e) : rowsL (l.take (k + 1)) = insR (rowsL (l.take k)) e.1 := by
  rw [List.take_add_one, h, Option.toList_some, rowsL_snoc]
/-- A cell for each row. -/
abbrev Rv := Value × List Vl
abbrev rvs (M : List Rv) : List (List Vl) := M.map Prod.snd
abbrev rcs (M : List Rv) : List Value := M.map Prod.fst

/-- What is asked of each edge, and of two that are neighbours. -/
def okE (e : Ed) : Bool := mayR e.1 && mayJ [e.2]
/-- The first n edges are in form, each by itself and behind the one ahead of it. -/
def Chk (l : List Ed) (n : Nat) : Prop := (∀ i e, i < n → l[i]? = some e → okE e = true) ∧ ∀ i a b, i + 1 < n → l[i]? = some a → l[i + 1]? = some b → elt a b
theorem byRows_get {l : List Ed} {k : Nat} {r : List Vl} (h : (rowsL l)[k]? = some r) : (byRows l)[k]? = some (r, jmps l r) := by
  unfold byRows; rw [List.getElem?_map, h]; rfl
theorem byRows_len (l : List Ed) : (byRows l).length = (rowsL l).length := by unfold byRows; rw [List.length_map]
/-- What is made of the first k rows. -/
def Evs (op : List Jp → Int × List Jp) (l : List Ed) (k : Nat) (acc : List Ed) : Prop := (∀ g ∈ (byRows l).take k, (op g.2).1 = 0) ∧ acc = evL op ((byRows l).take k)
theorem Evs.zero (op : List Jp → Int × List Jp) (l : List Ed) : Evs op l 0 [] := ⟨by simp, by simp [evL]⟩
theorem Evs.next {op : List Jp → Int × List Jp} {l : List Ed} {k : Nat} {acc : List Ed} {r : List Vl} (h : Evs op l k acc) (hr : (rowsL l)[k]? = some r) (h0 : (op (jmps l r)).1 = 0) : Evs op l (k + 1) (acc ++ (op (jmps l r)).2.map fun j => (r, j)) := by
  have hx := byRows_get hr
  have e : (byRows l).take (k + 1) = (byRows l).take k ++ [(r, jmps l r)] := by rw [List.take_add_one, hx]; rfl
  refine ⟨fun g hg => ?_, ?_⟩
  · rw [e] at hg
    rcases List.mem_append.1 hg with hg | hg
    · exact h.1 g hg
    · obtain rfl := List.mem_singleton.1 hg; exact h0
  · rw [e, evL_snoc, ← h.2]
theorem evE_ok' {op : List Jp → Int × List Jp} : ∀ {G : List Gp}, (∀ g ∈ G, (op g.2).1 = 0) → evE op G = 0
  | [], _ => rfl
  | g :: t, h => by unfold evE; rw [if_pos (h g (by simp))]; exact evE_ok' fun x hx => h x (by simp [hx])
theorem evE_bad' {op : List Jp → Int × List Jp} : ∀ {G : List Gp} {k : Nat} {x : Gp}, (∀ g ∈ G.take k, (op g.2).1 = 0) → G[k]? = some x → (op x.2).1 ≠ 0 → evE op G = (op x.2).1
  | g :: t, 0, x, _, hx, h => by simp at hx; subst hx; unfold evE; rw [if_neg h]
  | g :: t, k + 1, x, hp, hx, h => by
    unfold evE
    rw [if_pos (hp g (by simp))]
    exact evE_bad' (k := k) (fun y hy => hp y (by simp [hy])) (by simpa using hx) h
theorem Evs.bad {op : List Jp → Int × List Jp} {l : List Ed} {k : Nat} {acc : List Ed} {r : List Vl} (h : Evs op l k acc) (hr : (rowsL l)[k]? = some r) (h0 : (op (jmps l r)).1 ≠ 0) : eachE op (byRows l) = (op (jmps l r)).1 ∧ eachR op (byRows l) = [] := by
  have e := evE_bad' h.1 (byRows_get hr) h0
  have e2 : eachE op (byRows l) = (op (jmps l r)).1 := by unfold eachE; rw [if_neg (by rw [e]; exact h0), e]
  exact ⟨e2, by unfold eachR; rw [if_neg (by rw [e2]; exact h0)]⟩
theorem Evs.done {op : List Jp → Int × List Jp} {l : List Ed} {k : Nat} {acc : List Ed} (h : Evs op l k acc) (hk : (rowsL l).length ≤ k) : (4096 < acc.length → eachE op (byRows l) = 7 ∧ eachR op (byRows l) = []) ∧ (¬ 4096 < acc.length → eachE op (byRows l) = 0 ∧ eachR op (byRows l) = acc) := by
  obtain ⟨h1, h2⟩ := h
  rw [List.take_of_length_le (by rw [byRows_len]; exact hk)] at h1 h2
  have e := evE_ok' h1
  constructor
  · intro hl
    have e2 : eachE op (byRows l) = 7 := by unfold eachE; rw [if_pos e, ← h2, if_pos hl]
    exact ⟨e2, by unfold eachR; rw [if_neg (by rw [e2]; decide)]⟩
  · intro hl
    have e2 : eachE op (byRows l) = 0 := by unfold eachE; rw [if_pos e, ← h2, if_neg hl]
    exact ⟨e2, by unfold eachR; rw [if_pos e2, h2]⟩
end Go.Proofs.YtobmjcehgpmfgaaGreat
