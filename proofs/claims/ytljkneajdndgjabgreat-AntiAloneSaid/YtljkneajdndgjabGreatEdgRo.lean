/-
  A helper of ours: no claim of its own. Layer 10 (edge): the rows that have edges, by the document.
-/
import Derived.Test.YtljkneajdndgjabGreatEdgS
import Derived.Test.YtljkneajdndgjabGreatReg4
set_option linter.unusedVariables false
set_option linter.unusedSimpArgs false
namespace Go.Proofs.YtljkneajdndgjabGreat
open Go.RowKit
theorem ins_same {rows : List (List Vl)} {r : List Vl} (n : Nat) (h : rows[n]? = some r) : insR rows r = rows := by
  unfold insR
  rw [if_pos (hasR_iff.2 (List.mem_of_getElem? h))]
theorem ins_split {rows : List (List Vl)} {r : List Vl} (hv : ∀ y ∈ rows, mayR y = true) (hr : mayR r = true) (ha : rows.Pairwise rlt) (n : Nat) (h1 : ∀ x ∈ rows.take n, cmpT x r < 0) (h2 : ∀ x, rows[n]? = some x → ¬ cmpT x r < 0) (h3 : rows[n]? ≠ some r) : insR rows r = rows.take n ++ r :: rows.drop n := by
  have key : ∀ x ∈ rows.drop n, 0 < cmpT x r := by
    have hd : (rows.drop n).Pairwise rlt := ha.sublist (List.drop_sublist n rows)
    have h0 : (rows.drop n)[0]? = rows[n]? := by rw [List.getElem?_drop, Nat.add_zero]
    have hsub : ∀ y ∈ rows.drop n, y ∈ rows := fun y hy => List.mem_of_mem_drop hy
    generalize rows.drop n = t at hd h0 hsub
    rcases t with _ | ⟨y, t⟩
    · intro x hx; simp at hx
    · simp only [List.getElem?_cons_zero] at h0
      have hyr : rlt r y := by
        rcases row_ways (hv y (hsub y (by simp))) hr with h | h | h
        · exact absurd h.2 (h2 y h0.symm)
        · exact absurd (h ▸ h0.symm) h3
        · exact h
      intro x hx
      have hrx : rlt r x := by
        rcases List.mem_cons.1 hx with rfl | hx
        · exact hyr
        · exact rlt_trans hyr ((List.pairwise_cons.1 hd).1 x hx)
      have := hrx.2; have := cmpT_swap x r; omega
  have hno : r ∉ rows := by
    intro h
    rw [← List.take_append_drop n rows] at h
    have h0 := cmpT_self hr
    rcases List.mem_append.1 h with h | h
    · have := h1 r h; omega
    · have := key r h; omega
  unfold insR
  rw [if_neg (by rw [hasR_iff]; exact hno)]
  have e1 : rows.filter (fun x => decide (cmpT x r < 0)) = rows.take n := by
    conv => lhs; rw [← List.take_append_drop n rows]
    rw [List.filter_append, List.filter_eq_self.2 (fun x hx => by simpa using h1 x hx), List.filter_eq_nil_iff.2 (fun x hx => by have := key x hx; simp; omega), List.append_nil]
  have e2 : rows.filter (fun x => decide (0 < cmpT x r)) = rows.drop n := by
    conv => lhs; rw [← List.take_append_drop n rows]
    rw [List.filter_append, List.filter_eq_nil_iff.2 (fun x hx => by have := h1 x hx; simp; omega), List.filter_eq_self.2 (fun x hx => by simpa using key x hx), List.nil_append]
  rw [e1, e2]
theorem rowsL_take_succ (l : List Ed) (k : Nat) (e : Ed) (h : l[k]? = some e) : rowsL (l.take (k + 1)) = insR (rowsL (l.take k)) e.1 := by
  rw [List.take_add_one, h, Option.toList_some, rowsL_snoc]
/-- A cell for each row. -/
abbrev Rv := Value × List Vl
abbrev rvs (M : List Rv) : List (List Vl) := M.map Prod.snd
abbrev rcs (M : List Rv) : List Value := M.map Prod.fst

/-- What is asked of each edge, and of two that are neighbours. -/
def okE (e : Ed) : Bool := mayR e.1 && mayJ [e.2]
theorem mayJ_one (j : Jp) : mayJ [j] = okJ j := by
  rw [Bool.eq_iff_iff, mayJ_iff]
  constructor
  · rintro ⟨-, h, -⟩; exact h j (by simp)
  · intro h; exact ⟨by simp, by simpa using h, by simp [Asc]⟩
theorem okE_iff (e : Ed) : okE e = true ↔ mayR e.1 = true ∧ okJ e.2 = true := by unfold okE; rw [Bool.and_eq_true, mayJ_one]
/-- The first n edges are in form, each by itself and behind the one ahead of it. -/
def Chk (l : List Ed) (n : Nat) : Prop := (∀ i e, i < n → l[i]? = some e → okE e = true) ∧ ∀ i a b, i + 1 < n → l[i]? = some a → l[i + 1]? = some b → elt a b
theorem Chk.zero (l : List Ed) : Chk l 0 := ⟨fun i e h => by omega, fun i a b h => by omega⟩
theorem Chk.first {l : List Ed} {e : Ed} (h : l[0]? = some e) (ok : okE e = true) : Chk l 1 :=
  ⟨fun i x hi hx => by obtain rfl : i = 0 := by omega
                       rw [h] at hx; cases hx; exact ok, fun i a b hi => by omega⟩
theorem Chk.next {l : List Ed} {k : Nat} {d e : Ed} (c : Chk l (k + 1)) (hd : l[k]? = some d) (he : l[k + 1]? = some e) (ok : okE e = true) (lt : elt d e) : Chk l (k + 2) := by
  refine ⟨fun i x hi hx => ?_, fun i a b hi ha hb => ?_⟩
  · rcases Nat.lt_or_ge i (k + 1) with h | h
    · exact c.1 i x h hx
    · obtain rfl : i = k + 1 := by omega
      rw [he] at hx; cases hx; exact ok
  · rcases Nat.lt_or_ge (i + 1) (k + 1) with h | h
    · exact c.2 i a b h ha hb
    · obtain rfl : i = k := by omega
      rw [hd] at ha; rw [he] at hb; cases ha; cases hb; exact lt
theorem Chk.pairwise {l : List Ed} (c : Chk l l.length) : l.Pairwise elt := by
  have key : ∀ (m : List Ed), (∀ i a b, m[i]? = some a → m[i + 1]? = some b → elt a b) → m.Pairwise elt := by
    intro m
    induction m with
    | nil => intro _; exact .nil
    | cons a m ih =>
      intro h
      have ih' := ih fun i x y hx hy => h (i + 1) x y (by simpa using hx) (by simpa using hy)
      refine List.pairwise_cons.2 ⟨?_, ih'⟩
      rcases m with _ | ⟨b, m⟩
      · simp
      · have hab := h 0 a b rfl rfl
        intro x hx
        rcases List.mem_cons.1 hx with rfl | hx
        · exact hab
        · exact elt_trans hab ((List.pairwise_cons.1 ih').1 x hx)
  refine key l fun i a b ha hb => c.2 i a b ?_ ha hb
  have := (List.getElem?_eq_some_iff.1 hb).1
  exact this
theorem mayE_elt {l : List Ed} (h : mayE l = true) {i : Nat} {a b : Ed} (ha : l[i]? = some a) (hb : l[i + 1]? = some b) : elt a b := by
  obtain ⟨-, -, h3, -⟩ := mayE_doc.1 h
  obtain ⟨q, rfl⟩ := List.getElem?_eq_some_iff.1 ha
  obtain ⟨q', rfl⟩ := List.getElem?_eq_some_iff.1 hb
  exact List.pairwise_iff_getElem.1 h3 i (i + 1) q q' (by omega)
theorem mayE_okE {l : List Ed} (h : mayE l = true) {e : Ed} (he : e ∈ l) : okE e = true := (okE_iff e).2 ((mayE_doc.1 h).2.1 e he)
theorem mayE_chk {l : List Ed} (hl : l.length ≤ 4096) (c : Chk l l.length) (h : ∀ r ∈ rowsL l, (jmps l r).length ≤ 1024) : mayE l = true := by
  refine mayE_doc.2 ⟨hl, fun e he => ?_, c.pairwise, h⟩
  obtain ⟨i, hi⟩ := List.getElem?_of_mem he
  exact (okE_iff e).1 (c.1 i e (List.getElem?_eq_some_iff.1 hi).1 hi)
theorem Chk.rows {l : List Ed} (c : Chk l l.length) : ∀ e ∈ l, mayR e.1 = true := fun e he => by
  obtain ⟨i, hi⟩ := List.getElem?_of_mem he
  exact ((okE_iff e).1 (c.1 i e (List.getElem?_eq_some_iff.1 hi).1 hi)).1
theorem mayE_false {l : List Ed} (h : mayE l = true → False) : mayE l = false := by
  cases hh : mayE l
  · rfl
  · exact (h hh).elim
/-- Which rows' jumps a table asks about. -/
theorem tabE_rows {l : List Ed} (h : mayE l = true) : tabE l = (rowsL l).all fun r => decide (0 ≤ leV (jmps l r)) := by
  unfold tabE
  rw [h, Bool.true_and, grp_eq (mayE_rise h)]
  unfold byRows
  rw [List.all_map]
  rfl
theorem byRows_get {l : List Ed} {k : Nat} {r : List Vl} (h : (rowsL l)[k]? = some r) : (byRows l)[k]? = some (r, jmps l r) := by
  unfold byRows; rw [List.getElem?_map, h]; rfl
theorem byRows_len (l : List Ed) : (byRows l).length = (rowsL l).length := by unfold byRows; rw [List.length_map]
/-- What is made of the first k rows. -/
def Evs (op : List Jp → Int × List Jp) (l : List Ed) (k : Nat) (acc : List Ed) : Prop := (∀ g ∈ (byRows l).take k, (op g.2).1 = 0) ∧ acc = evL op ((byRows l).take k)
theorem Evs.zero (op : List Jp → Int × List Jp) (l : List Ed) : Evs op l 0 [] := ⟨by simp, by simp [evL]⟩
theorem Evs.next {op : List Jp → Int × List Jp} {l : List Ed} {k : Nat} {acc : List Ed} {r : List Vl} (h : Evs op l k acc) (hr : (rowsL l)[k]? = some r) (h0 : (op (jmps l r)).1 = 0) : Evs op l (k + 1) (acc ++ (op (jmps l r)).2.map fun j => (r, j)) := by
  have hx := byRows_get hr
  have e : (byRows l).take (k + 1) = (byRows l).take k ++ [(r, jmps l r)] := by rw [List.take_add_one, hx]; rfl
  refine ⟨fun g hg => ?_, ?_⟩
  · rw [e] at hg
    rcases List.mem_append.1 hg with hg | hg
    · exact h.1 g hg
    · obtain rfl := List.mem_singleton.1 hg; exact h0
  · rw [e, evL_snoc, ← h.2]
theorem evE_ok' {op : List Jp → Int × List Jp} : ∀ {G : List Gp}, (∀ g ∈ G, (op g.2).1 = 0) → evE op G = 0
  | [], _ => rfl
  | g :: t, h => by unfold evE; rw [if_pos (h g (by simp))]; exact evE_ok' fun x hx => h x (by simp [hx])
theorem evE_bad' {op : List Jp → Int × List Jp} : ∀ {G : List Gp} {k : Nat} {x : Gp}, (∀ g ∈ G.take k, (op g.2).1 = 0) → G[k]? = some x → (op x.2).1 ≠ 0 → evE op G = (op x.2).1
  | g :: t, 0, x, _, hx, h => by simp at hx; subst hx; unfold evE; rw [if_neg h]
  | g :: t, k + 1, x, hp, hx, h => by
    unfold evE
    rw [if_pos (hp g (by simp))]
    exact evE_bad' (k := k) (fun y hy => hp y (by simp [hy])) (by simpa using hx) h
theorem Evs.bad {op : List Jp → Int × List Jp} {l : List Ed} {k : Nat} {acc : List Ed} {r : List Vl} (h : Evs op l k acc) (hr : (rowsL l)[k]? = some r) (h0 : (op (jmps l r)).1 ≠ 0) : eachE op (byRows l) = (op (jmps l r)).1 ∧ eachR op (byRows l) = [] := by
  have e := evE_bad' h.1 (byRows_get hr) h0
  have e2 : eachE op (byRows l) = (op (jmps l r)).1 := by unfold eachE; rw [if_neg (by rw [e]; exact h0), e]
  exact ⟨e2, by unfold eachR; rw [if_neg (by rw [e2]; exact h0)]⟩
theorem Evs.done {op : List Jp → Int × List Jp} {l : List Ed} {k : Nat} {acc : List Ed} (h : Evs op l k acc) (hk : (rowsL l).length ≤ k) : (4096 < acc.length → eachE op (byRows l) = 7 ∧ eachR op (byRows l) = []) ∧ (¬ 4096 < acc.length → eachE op (byRows l) = 0 ∧ eachR op (byRows l) = acc) := by
  obtain ⟨h1, h2⟩ := h
  rw [List.take_of_length_le (by rw [byRows_len]; exact hk)] at h1 h2
  have e := evE_ok' h1
  constructor
  · intro hl
    have e2 : eachE op (byRows l) = 7 := by unfold eachE; rw [if_pos e, ← h2, if_pos hl]
    exact ⟨e2, by unfold eachR; rw [if_neg (by rw [e2]; decide)]⟩
  · intro hl
    have e2 : eachE op (byRows l) = 0 := by unfold eachE; rw [if_pos e, ← h2, if_neg hl]
    exact ⟨e2, by unfold eachR; rw [if_pos e2, h2]⟩
end Go.Proofs.YtljkneajdndgjabGreat
set_option linter.unusedVariables false
set_option linter.unusedSimpArgs false
namespace Go.Proofs.YtljkneajdndgjabGreat
open Go.RowKit
attribute [-go_sem] sliced
attribute [local go_sem] sliced_eq
attribute [local go_sem] GW.cell GW.frozen In.eq_true In.le_true In.ne In.ne' In.ne_add In.ne_add' In.lt_add Upto.le_true Upto.le_add Upto.lt_add
theorem tRows : ElemT Tryz.prog 72 33 (.slice none 0 0) 1 24 := ElemT.mk' Tryz.underlying72 (by kernel_rfl) rfl (by omega)
/-- A slice of rows, as it lies; its rows lie elsewhere. -/
abbrev OwnRs (w : World) (base : Nat) (v : Value) (M : List Rv) : Prop := w.ownsRow base 33 1 v M.length (rcs M)
theorem rs_form {w : World} {S : List Nat} {v : Value} {M : List Rv} (h : Sl w S 1 v M.length (rcs M)) : ∃ A cap, v = .slice A M.length cap ∧ M.length ≤ cap ∧ cap ≤ maxLen ∧ ∀ (i : Nat) (p : Rv), M[i]? = some p → ∃ b o, A = some ⟨b, o, none⟩ ∧ b ∉ S ∧ b < w.heap.size ∧ w.cell? ⟨b, o + i, none⟩ = some p.1 := by
  obtain ⟨A, cap, rfl, h1, h2, h3, h4⟩ := h
  refine ⟨A, cap, rfl, h1, h2, fun i p hp => ?_⟩
  have hg : (rcs M)[i]? = some p.1 := by simp [rcs, hp]
  rcases h4 with h4 | ⟨b, o, rfl, hb, hc⟩
  · rw [h4] at hg; cases hg
  · have c0 := hc i _ hg
    exact ⟨b, o, rfl, hb, block_lt_of_cell c0, c0⟩
theorem rcs_one {N : List Rv} (h : ∀ p ∈ N, p.1.oneCell' = true) : ∀ u ∈ rcs N, u.oneCell' = true := by
  intro u hu
  obtain ⟨p, hp, rfl⟩ := List.mem_map.1 hu
  exact h p hp
theorem rcs_take {N : List Rv} (n : Nat) (h : ∀ p ∈ N, p.1.oneCell' = true) : ∀ u ∈ (rcs N).take n, u.oneCell' = true := fun u hu => rcs_one h u (List.mem_of_mem_take hu)
theorem rcs_drop {N : List Rv} (n : Nat) (h : ∀ p ∈ N, p.1.oneCell' = true) : ∀ u ∈ (rcs N).drop n, u.oneCell' = true := fun u hu => rcs_one h u (List.mem_of_mem_drop hu)
theorem own_rs {w : World} {base n : Nat} {v : Value} {M : List Rv} {p : Rv} (hn : n ≤ M.length) (h : w.ownsRow base 33 1 v (0 + n + 1 + (M.length - n)) ((([] ++ (rcs M).take n) ++ [p.1]) ++ (rcs M).drop n)) : OwnRs w base v (M.take n ++ p :: M.drop n) := by
  unfold OwnRs
  have e : (M.take n ++ p :: M.drop n).length = 0 + n + 1 + (M.length - n) := by simp only [List.length_append, List.length_take, List.length_cons, List.length_drop]; omega
  rw [e]
  simpa [rcs] using h
set_option maxHeartbeats 8000000 in
set_option maxRecDepth 100000 in
theorem refRows_c (L : List Ve) (v : Value) (w : World) (hC : Ew w [] v L) (hv : ∀ e ∈ eds L, mayR e.1 = true) (hz : L.length ≤ 1000000000) : Calls Tryz.prog 41 #[v] w fun e w' => ∃ v' M, e = .returned v' ∧ rvs M = rowsL (eds L) ∧ OwnRs w' w.heap.size v' M ∧ (∀ p ∈ M, ∃ q ∈ L, q.1 = p.1 ∧ q.2.1 = p.2) ∧ Ext w w' := by
  obtain ⟨A, cap, rfl, hlc, hlm, hat⟩ := ew_form hC
  unfold maxLen at hlm
  have hrl := hide hC.2
  replace hat := hide hat
  have hvT : Hid (∀ k, (∀ y ∈ rowsL ((eds L).take k), mayR y = true) ∧ (rowsL ((eds L).take k)).Pairwise rlt) := fun k => by
    obtain ⟨h1, h2⟩ := rowsL_ok (l := (eds L).take k) fun e he => hv e (List.mem_of_mem_take he)
    refine ⟨fun y hy => ?_, h1⟩
    obtain ⟨e, he, rfl⟩ := (h2 y).1 hy
    exact hv e (List.mem_of_mem_take he)
  replace hv := hide hv
  clear hC
  have hlit0 := hide (World.ownsRow_lit (base := w.heap.size) (e := 33) (size := 1) w #[] 0 (Nat.le_refl _) (by decide) rfl)
  go_enter Tryz.func41, Tryz.ntmps41
  go_wp2_with fail
  go_loopg [3, 4] L.length (fun gh vv i wr => ∃ (k : Nat) (M : List Rv), i = .int .i64 k ∧ k + gh = L.length ∧ OwnRs wr w.heap.size vv M ∧ M.length ≤ k ∧ Hid (rvs M = rowsL ((eds L).take k)) ∧ Hid (∀ p ∈ M, ∃ q ∈ L, q.1 = p.1 ∧ q.2.1 = p.2) ∧ Ext w wr)
  case atStart => exact ⟨0, [], rfl, by omega, hlit0.out, Nat.le_refl _, (by show _ = _; simp [rvs, rowsL]), (by intro p hp; simp at hp), (Ext.refl w).alloc _⟩
  case round =>
    clear hlit0
    obtain ⟨k, M, rfl, hk, ho, hMk, hM, hMq, hX⟩ := hrel
    have hMr : Hid (∀ p ∈ M, Rw w [] p.1 p.2) := fun p hp => by
      obtain ⟨q, hq, e1, e2⟩ := hMq.out p hp
      rw [← e1, ← e2]; exact hrl.out q hq
    obtain ⟨wo, hwo⟩ : ∃ wo, wo = wr := ⟨_, rfl⟩
    subst hwo
    have hzX := hX.size
    obtain ⟨RA, rcap, rfl, hrc, hrm, hrt⟩ := rs_form (Sl.own (S := []) ho (by simp))
    unfold maxLen at hrm
    replace ho := hide ho
    replace hrt := hide hrt
    by_cases hlt : k < L.length
    · obtain ⟨⟨xv, xr, xj⟩, hx⟩ : ∃ x, L[k]? = some x := ⟨_, List.getElem?_eq_getElem hlt⟩
      obtain ⟨b, o, rfl, -, hb, c0, -, -⟩ := hat.out k _ hx
      have k0 := hide (cell_later hX c0)
      have hrx := hide (hrl.out _ (List.mem_of_getElem? hx))
      have hxm : Hid (∃ q ∈ L, q.1 = xv ∧ q.2.1 = xr) := ⟨_, List.mem_of_getElem? hx, rfl, rfl⟩
      simp only at k0 hrx
      have hxe : (eds L)[k]? = some (xr, xj) := by simp [eds, hx]
      have hmx : mayR xr = true := hv.out _ (List.mem_of_getElem? hxe)
      have hMv := hide (hM.out ▸ (hvT.out k).1 : ∀ y ∈ rvs M, mayR y = true)
      have hMa := hide (hM.out ▸ (hvT.out k).2 : (rvs M).Pairwise rlt)
      have hnx : Hid (∀ {N : List (List Vl)}, insR (rvs M) xr = N → N = rowsL ((eds L).take (k + 1))) := fun h => by
        rw [← h, rowsL_take_succ _ _ _ hxe, hM.out]
      replace hmx := hide hmx
      clear c0 hx hxe hat hM hvT hv
      go_wp2_with fail
      go_loopg [5] M.length (fun gh2 i2 wr2 => ∃ (n : Nat), i2 = .int .i64 n ∧ n + gh2 = M.length ∧ Hid (∀ y ∈ (rvs M).take n, cmpT y xr < 0) ∧ Ext wo wr2)
      case atStart => exact ⟨0, rfl, by omega, (by intro y hy; simp at hy), Ext.refl wo⟩
      case round =>
        obtain ⟨n, rfl, hn2, hT, hX2⟩ := hrel
        have hn : n ≤ M.length := by omega
        have hnI : (n : Int) ≤ M.length := by omega
        have hnc : n ≤ rcap := by omega
        have hncI : (n : Int) ≤ rcap := by omega
        by_cases hnl : n < M.length
        · obtain ⟨⟨yv, yr⟩, hy⟩ : ∃ y, M[n]? = some y := ⟨_, List.getElem?_eq_getElem hnl⟩
          obtain ⟨b', o', rfl, -, hb', d0⟩ := hrt.out n _ hy
          have j0 := cell_later hX2 d0
          have j1 := cell_later hX2 k0.out
          have hbr : b < _ := block_lt_of_cell j1
          have hbr' : b' < _ := block_lt_of_cell j0
          have hyr := hide (Sl.ext (Sl.ext (hMr.out _ (List.mem_of_getElem? hy)) hX) hX2)
          have hxr := hide (Sl.ext (Sl.ext hrx.out hX) hX2)
          simp only at j0 hyr
          have hyM : (rvs M)[n]? = some yr := by simp [rvs, hy]
          have hcmp := hide (fun w' hXw => refRowCompare_c (Sl.ext (w := w') hyr.out hXw) (Sl.ext hxr.out hXw))
          have hsm := hide (fun w' hXw => refRowSame_c (Sl.ext (w := w') hyr.out hXw) (Sl.ext hxr.out hXw))
          rw [cmpR_of (hMv.out _ (List.mem_of_getElem? hyM)) hmx.out] at hcmp
          replace hy := hide hy
          have hg1 : decide ((n : Int) < (M.length : Int)) = true := by rw [decide_eq_true_iff]; omega
          obtain ⟨YA, ycap, rfl⟩ := rw_val hyr.out
          obtain ⟨XA, xcap, rfl⟩ := rw_val hxr.out
          by_cases hc : cmpT yr xr < 0
          · have hT2 : Hid (∀ y ∈ (rvs M).take (n + 1), cmpT y xr < 0) := by
              intro y hy2
              rw [List.take_add_one, hyM] at hy2
              rcases List.mem_append.1 hy2 with h | h
              · exact hT.out y h
              · obtain rfl : y = yr := by simpa using h
                exact hc
            have hg2 : decide (cmpT yr xr < 0) = true := by rw [decide_eq_true_iff]; exact hc
            generalize cmpT yr xr = cm at *
            haveI : In b _ := ⟨hbr⟩
            haveI : In b' _ := ⟨hbr'⟩
            replace hT := hide hT
            clear hyM d0 hc hsm
            go_wp2_with fail
            refine wp_region_gw (by kernel_rfl) (by kernel_rfl) ?_
            repeat (go_big_quiet_step ((go_at_call 83; with_reducible exact quiet_gw (hcmp.out _ (GW.grown _)))))
            refine wpQuiet_nil ?_
            intro g
            go_wp2_with fail
            go_roundg (M.length - (n + 1))
            case measure => omega
            case rel => exact ⟨n + 1, by go_num, by omega, hT2, hX2.trans g.grown⟩
          · have hg2 : decide (cmpT yr xr < 0) = false := by rw [decide_eq_false_iff_not]; exact hc
            have hsplit : Hid (yr ≠ xr → insR (rvs M) xr = (rvs M).take n ++ xr :: (rvs M).drop n) := fun hne => ins_split hMv.out hmx.out hMa.out n hT.out (fun y h => by rw [hyM] at h; cases h; exact hc) (by rw [hyM]; intro h; cases h; exact hne rfl)
            generalize cmpT yr xr = cm at hcmp hg2
            haveI : In b _ := ⟨hbr⟩
            haveI : In b' _ := ⟨hbr'⟩
            replace hX2 := hide hX2
            replace hyM := hide hyM
            clear d0 hc
            by_cases hq : yr = xr
            · go_wp2_with fail
              rw [decide_eq_true hq] at hsm
              have hsame := hide (hnx.out (ins_same n (by rw [← hq]; simp [rvs, hy.out])))
              replace hq := hide hq
              clear hnx hsplit
              refine wp_region_gw (by kernel_rfl) (by kernel_rfl) ?_
              repeat (go_big_quiet_step ((go_at_call 83; with_reducible exact quiet_gw (hcmp.out _ (GW.grown _)))))
              refine wpQuiet_nil ?_
              intro g
              go_wp2_with fail
              refine wp_region_gw (by kernel_rfl) (by kernel_rfl) ?_
              repeat (go_big_quiet_step ((go_at_call 46; with_reducible exact quiet_gw (hsm.out _ (g.grown.trans (GW.grown _))))))
              refine wpQuiet_nil ?_
              intro g2
              go_wp2_with fail
              go_roundg (L.length - (k + 1))
              case measure => omega
              case rel => exact ⟨k + 1, M, by go_num, by omega, own_ext ho.out ((hX2.out.trans g.grown).trans g2.grown), by omega, hsame.out, hMq.out, hX.trans ((hX2.out.trans g.grown).trans g2.grown)⟩
            · rw [decide_eq_false hq] at hsm
              replace hsplit := hide (hsplit.out hq)
              replace hq := hide hq
              go_wp2_with fail
              refine wp_region_gw (by kernel_rfl) (by kernel_rfl) ?_
              repeat (go_big_quiet_step ((go_at_call 83; with_reducible exact quiet_gw (hcmp.out _ (GW.grown _)))))
              refine wpQuiet_nil ?_
              intro gg
              go_wp2_with fail
              refine wp_region_gw (by kernel_rfl) (by kernel_rfl) ?_
              repeat (go_big_quiet_step ((go_at_call 46; with_reducible exact quiet_gw (hsm.out _ (gg.grown.trans (GW.grown _))))))
              refine wpQuiet_nil ?_
              intro g
              have hXW := hide ((hX2.out.trans gg.grown).trans g.grown)
              have hsp := hide (hsplit.out)
              have hcut := hide (Sl.ext (Sl.cut (Sl.own (S := []) ho.out (by simp)) 0 n rcap (by omega) (by omega) (by omega) (by omega)) hXW.out)
              have hdrp := hide (Sl.ext (Sl.cut (Sl.own (S := []) ho.out (by simp)) n M.length rcap (by omega) (by omega) (by omega) (by omega)) hXW.out)
              rw [sliced_eq] at hcut hdrp
              simp only [Nat.sub_zero, Nat.zero_mul, Nat.mul_one, List.drop_zero] at hcut hdrp
              rw [List.take_of_length_le (show (rcs M).length ≤ M.length by simp)] at hdrp
              have kW := hide (cell_later hXW.out k0.out)
              obtain ⟨W, hW⟩ : ∃ W, W = g.val := ⟨_, rfl⟩
              rw [← hW] at hXW hcut hdrp kW ⊢
              have hlit := hide (World.ownsRow_lit (base := W.heap.size) (e := 33) (size := 1) W #[] 0 (Nat.le_refl _) (by decide) rfl)
              have hzW := hide hXW.out.size
              have h1T := hide (rcs_take n (fun p hp => row_one (hMr.out p hp)))
              have h1D := hide (rcs_drop n (fun p hp => row_one (hMr.out p hp)))
              clear hW hsplit
              go_wp2_with (at_builtin; first
                | (refine wpl_app tRows rfl (.tmp 49) (.tmp 52) rfl rfl hlit.out rfl (src_sl Tryz.underlying72 (Sl.alloc hcut.out _) h1T.out (by omega)) (by unfold maxLen; omega) (by omega) (by simp) ?_; intro v1 w1 ho1 hg1 _; have hX1 := hide (ext_grown ((Ext.refl W).alloc (.cells #[] 33)) hg1 (fun q hq => (hlit.out.lt q hq).1)); have k1 := cell_later hX1.out kW.out; have hb1 : b < w1.heap.size := block_lt_of_cell k1)
                | (refine wpl_app tRows rfl (.tmp 54) (.tmp 60) rfl rfl (own_ext ho1 ((Ext.refl w1).alloc _)) rfl (src_one Tryz.underlying72 w1 _ _ (row_one hrx.out)) (by unfold maxLen; omega) (by omega) (by simp; have := hX1.out.size; omega) ?_; intro v2 w2 ho2 hg2 _; have hX2 := hide (ext_grown (hX1.out.alloc _) hg2 (fun q hq => (ho1.lt q hq).1)))
                | (refine wpl_app tRows rfl (.tmp 62) (.tmp 65) rfl rfl ho2 rfl (src_sl Tryz.underlying72 (Sl.ext hdrp.out hX2.out) h1D.out (by omega)) (by unfold maxLen; omega) (by omega) (hX2.out.size) ?_; intro v3 w3 ho3 hg3 _; have hX3 := hide (ext_grown hX2.out hg3 (fun q hq => (ho2.lt q hq).1))))
              go_roundg (L.length - (k + 1))
              case measure => omega
              case rel => exact ⟨k + 1, M.take n ++ (.slice XA xr.length xcap, xr) :: M.drop n, by go_num, by omega, own_base (own_rs hn ho3) (by have := hX.size; have := hzW.out; omega), by simp only [List.length_append, List.length_take, List.length_cons, List.length_drop]; omega, hnx.out (by rw [hsp.out]; simp [rvs]), by
                intro p hp
                rcases List.mem_append.1 hp with hp | hp
                · exact hMq.out p (List.mem_of_mem_take hp)
                · rcases List.mem_cons.1 hp with rfl | hp
                  · exact hxm.out
                  · exact hMq.out p (List.mem_of_mem_drop hp), (hX.trans hXW.out).trans hX3.out⟩
        · have hn3 : n = M.length := by omega
          have hg1 : decide ((n : Int) < (M.length : Int)) = false := by rw [decide_eq_false_iff_not]; omega
          have hsplit : Hid (insR (rvs M) xr = (rvs M).take n ++ xr :: (rvs M).drop n) := ins_split hMv.out hmx.out hMa.out n hT.out (fun y h => by rw [hn3] at h; simp [rvs] at h) (by rw [hn3]; simp [rvs])
          obtain ⟨XA, xcap, rfl⟩ := rw_val hrx.out
          replace hX2 := hide hX2
          replace hn3 := hide hn3
          go_wp2_with fail
          refine wp_region_gw (by kernel_rfl) (by kernel_rfl) ?_
          repeat (go_big_quiet_step (fail))
          refine wpQuiet_nil ?_
          intro gg
          go_wp2_with fail
          refine wp_region_gw (by kernel_rfl) (by kernel_rfl) ?_
          repeat (go_big_quiet_step (fail))
          refine wpQuiet_nil ?_
          intro g
          have hXW := hide ((hX2.out.trans gg.grown).trans g.grown)
          have hsp := hide (hsplit.out)
          have hcut := hide (Sl.ext (Sl.cut (Sl.own (S := []) ho.out (by simp)) 0 n rcap (by omega) (by omega) (by omega) (by omega)) hXW.out)
          have hdrp := hide (Sl.ext (Sl.cut (Sl.own (S := []) ho.out (by simp)) n M.length rcap (by omega) (by omega) (by omega) (by omega)) hXW.out)
          rw [sliced_eq] at hcut hdrp
          simp only [Nat.sub_zero, Nat.zero_mul, Nat.mul_one, List.drop_zero] at hcut hdrp
          rw [List.take_of_length_le (show (rcs M).length ≤ M.length by simp)] at hdrp
          have kW := hide (cell_later hXW.out k0.out)
          obtain ⟨W, hW⟩ : ∃ W, W = g.val := ⟨_, rfl⟩
          rw [← hW] at hXW hcut hdrp kW ⊢
          have hlit := hide (World.ownsRow_lit (base := W.heap.size) (e := 33) (size := 1) W #[] 0 (Nat.le_refl _) (by decide) rfl)
          have hzW := hide hXW.out.size
          have h1T := hide (rcs_take n (fun p hp => row_one (hMr.out p hp)))
          have h1D := hide (rcs_drop n (fun p hp => row_one (hMr.out p hp)))
          clear hW hsplit
          go_wp2_with (at_builtin; first
            | (refine wpl_app tRows rfl (.tmp 49) (.tmp 52) rfl rfl hlit.out rfl (src_sl Tryz.underlying72 (Sl.alloc hcut.out _) h1T.out (by omega)) (by unfold maxLen; omega) (by omega) (by simp) ?_; intro v1 w1 ho1 hg1 _; have hX1 := hide (ext_grown ((Ext.refl W).alloc (.cells #[] 33)) hg1 (fun q hq => (hlit.out.lt q hq).1)); have k1 := cell_later hX1.out kW.out; have hb1 : b < w1.heap.size := block_lt_of_cell k1)
            | (refine wpl_app tRows rfl (.tmp 54) (.tmp 60) rfl rfl (own_ext ho1 ((Ext.refl w1).alloc _)) rfl (src_one Tryz.underlying72 w1 _ _ (row_one hrx.out)) (by unfold maxLen; omega) (by omega) (by simp; have := hX1.out.size; omega) ?_; intro v2 w2 ho2 hg2 _; have hX2 := hide (ext_grown (hX1.out.alloc _) hg2 (fun q hq => (ho1.lt q hq).1)))
            | (refine wpl_app tRows rfl (.tmp 62) (.tmp 65) rfl rfl ho2 rfl (src_sl Tryz.underlying72 (Sl.ext hdrp.out hX2.out) h1D.out (by omega)) (by unfold maxLen; omega) (by omega) (hX2.out.size) ?_; intro v3 w3 ho3 hg3 _; have hX3 := hide (ext_grown hX2.out hg3 (fun q hq => (ho2.lt q hq).1))))
          go_roundg (L.length - (k + 1))
          case measure => omega
          case rel => exact ⟨k + 1, M.take n ++ (.slice XA xr.length xcap, xr) :: M.drop n, by go_num, by omega, own_base (own_rs hn ho3) (by have := hX.size; have := hzW.out; omega), by simp only [List.length_append, List.length_take, List.length_cons, List.length_drop]; omega, hnx.out (by rw [hsp.out]; simp [rvs]), by
            intro p hp
            rcases List.mem_append.1 hp with hp | hp
            · exact hMq.out p (List.mem_of_mem_take hp)
            · rcases List.mem_cons.1 hp with rfl | hp
              · exact hxm.out
              · exact hMq.out p (List.mem_of_mem_drop hp), (hX.trans hXW.out).trans hX3.out⟩
    · have hk' : k = L.length := by omega
      have hge : (L.length : Int) ≤ k := by omega
      have hM2 := hM.out
      rw [List.take_of_length_le (by simp [eds]; omega)] at hM2
      replace hM2 := hide hM2
      replace hk' := hide hk'
      clear hM
      go_wp2_with fail
      go_returns
      exact ⟨_, M, rfl, hM2.out, ho.out, hMq.out, hX⟩
end Go.Proofs.YtljkneajdndgjabGreat
