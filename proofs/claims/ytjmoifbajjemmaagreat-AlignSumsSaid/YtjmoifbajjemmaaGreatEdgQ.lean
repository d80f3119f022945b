/-
  A helper of ours: no claim of its own. Layer 10 (edge), lists only: a row put into rows that rise, at the place where it belongs.
-/
import Derived.Test.YtjmoifbajjemmaaGreatAlnF
import Derived.Test.YtjmoifbajjemmaaGreatEdgS
set_option linter.unusedVariables false
set_option linter.unusedSimpArgs false
namespace Go.Proofs.YtjmoifbajjemmaaGreat
open Go.RowKit
attribute [local go_sem] GW.cell GW.frozen In.eq_true In.le_true In.ne In.ne' In.ne_add In.ne_add' In.lt_add Upto.le_true Upto.le_add Upto.lt_add
/-- The document's align: its block, its clocks, what it holds. -/
def RA (w : World) (S : List Nat) (r cb hb cc hc : Nat) (st : List Hi) : Prop :=
  (Ob w r 62 [.slice (some ⟨cb, 0, none⟩) st.length cc, .slice (some ⟨hb, 0, none⟩) st.length hc] ∧ w.ownsRow 0 3 1 (.slice (some ⟨cb, 0, none⟩) st.length cc) st.length (st.map fun p => .int .i64 p.1) ∧ w.ownsRow 0 34 1 (.slice (some ⟨hb, 0, none⟩) st.length hc) st.length (st.map (·.2.1))) ∧ (∀ p ∈ st, Ew w S p.2.1 p.2.2) ∧ (r ∉ S ∧ cb ∈ S ∧ hb ∈ S) ∧ cb ≠ hb
section
variable {w w' : World} {S S' : List Nat} {r cb hb cc hc : Nat} {st : List Hi}
theorem own_frA {base e size n g o cap : Nat} {xs : List Value} (h : w.ownsRow base e size (.slice (some ⟨g, o, none⟩) n cap) n xs) (k : Fr S' w w') (hg : g ∉ S') : w'.ownsRow base e size (.slice (some ⟨g, o, none⟩) n cap) n xs := by
  refine own_keepA h fun g' hg' => k.block g' ?_ ?_
  · obtain ⟨cur, hh⟩ := own_heapA h hg'; exact lt_of_block hh
  · obtain rfl : g = g' := by simpa [Value.ownBlock] using hg'
    exact hg
theorem RA.fr (h : RA w S r cb hb cc hc st) (k : Fr S' w w') (hs : ∀ b, b ∈ S' → b ∈ S) (h1 : cb ∉ S') (h2 : hb ∉ S') : RA w' S r cb hb cc hc st :=
  ⟨⟨h.1.1.fr k (fun m => h.2.2.1.1 (hs _ m)), own_frA h.1.2.1 k h1, own_frA h.1.2.2 k h2⟩, fun p hp => (h.2.1 p hp).fr k hs, h.2.2⟩
theorem RA.ext (h : RA w S r cb hb cc hc st) (k : Ext w w') : RA w' S r cb hb cc hc st := h.fr (Fr.of_ext (S := []) k) (by simp) (by simp) (by simp)
theorem RA.clock (h : RA w S r cb hb cc hc st) {i : Nat} {p : Hi} (hp : st[i]? = some p) : w.cell? ⟨cb, i, none⟩ = some (.int .i64 p.1) := by
  have hi := (List.getElem?_eq_some_iff.1 hp).1
  rw [World.ownsRow.cellAt h.1.2.1 i (by omega), List.getElem?_map, hp]; rfl
theorem RA.hold (h : RA w S r cb hb cc hc st) {i : Nat} {p : Hi} (hp : st[i]? = some p) : w.cell? ⟨hb, i, none⟩ = some p.2.1 := by
  have hi := (List.getElem?_eq_some_iff.1 hp).1
  rw [World.ownsRow.cellAt h.1.2.2 i (by omega), List.getElem?_map, hp]; rfl
theorem RA.cblt (h : RA w S r cb hb cc hc st) : cb < w.heap.size := (World.ownsRow.lt h.1.2.1 cb rfl).2
theorem RA.hblt (h : RA w S r cb hb cc hc st) : hb < w.heap.size := (World.ownsRow.lt h.1.2.2 hb rfl).2
theorem RA.setC {i : Nat} {c : Int} {v : Value} {L : List Ve} (h : RA w S r cb hb cc hc st) (hi : st[i]? = some (c, v, L)) (c' : Int) : RA (w.setCell ⟨cb, i, none⟩ (.int .i64 c')) S r cb hb cc hc (st.set i (c', v, L)) := by
  have hF := (Fr.refl [cb] w).setCell ⟨cb, i, none⟩ (.int .i64 c') (.inl (by simp))
  have hrc : r ≠ cb := fun e => h.2.2.1.1 (e ▸ h.2.2.1.2.1)
  refine ⟨⟨?_, ?_, ?_⟩, fun p hp => ?_, h.2.2⟩
  · rw [List.length_set]; exact h.1.1.far _ _ hrc
  · have := (World.ownsRow.stored h.1.2.1 i (.int .i64 c')).1
    rw [List.length_set, List.map_set]; exact this
  · rw [List.length_set, List.map_set]
    have e : (st.map (·.2.1)).set i v = st.map (·.2.1) := set_idA (by rw [List.getElem?_map, hi]; rfl)
    show World.ownsRow _ _ _ _ _ _ ((st.map (·.2.1)).set i v)
    rw [e]; exact own_frA h.1.2.2 hF (by simp; exact Ne.symm h.2.2.2)
  · rcases mem_set_of hp with rfl | hm
    · exact (h.2.1 (c, v, L) (List.mem_of_getElem? hi)).fr hF (by simp [h.2.2.1.2.1])
    · exact (h.2.1 _ hm).fr hF (by simp [h.2.2.1.2.1])
theorem RA.setH {i : Nat} {c : Int} {v v' : Value} {L N : List Ve} (h : RA w S r cb hb cc hc st) (hi : st[i]? = some (c, v, L)) (hn : Ew w S v' N) : RA (w.setCell ⟨hb, i, none⟩ v') S r cb hb cc hc (st.set i (c, v', N)) := by
  have hF := (Fr.refl [hb] w).setCell ⟨hb, i, none⟩ v' (.inl (by simp))
  have hrc : r ≠ hb := fun e => h.2.2.1.1 (e ▸ h.2.2.1.2.2)
  refine ⟨⟨?_, ?_, ?_⟩, fun p hp => ?_, h.2.2⟩
  · rw [List.length_set]; exact h.1.1.far _ _ hrc
  · rw [List.length_set, List.map_set]
    have e : (st.map fun p : Hi => Value.int .i64 p.1).set i (.int .i64 c) = st.map fun p : Hi => Value.int .i64 p.1 := set_idA (by rw [List.getElem?_map, hi]; rfl)
    show World.ownsRow _ _ _ _ _ _ ((st.map fun p : Hi => Value.int .i64 p.1).set i (.int .i64 c))
    rw [e]; exact own_frA h.1.2.1 hF (by simp; exact h.2.2.2)
  · have := (World.ownsRow.stored h.1.2.2 i v').1
    rw [List.length_set, List.map_set]; exact this
  · rcases mem_set_of hp with rfl | hm
    · exact hn.fr hF (by simp [h.2.2.1.2.2])
    · exact (h.2.1 _ hm).fr hF (by simp [h.2.2.1.2.2])
end
theorem clk_le (X : List Xi) : clkX X ≤ 1125899906842624 := by
  unfold clkX
  have : ∀ (X : List Xi) (z : Int), X.foldl (fun t p => min t p.1) z ≤ z := by
    intro X
    induction X with
    | nil => intro z; exact Int.le_refl _
    | cons p X ih => intro z; exact Int.le_trans (ih _) (Int.min_le_left _ _)
  exact this X _
set_option maxHeartbeats 8000000 in
set_option maxRecDepth 100000 in
theorem refAlClock_c (S : List Nat) (r cb hb cc hc : Nat) (st : List Hi) (hn1 : 1 ≤ st.length) (hn8 : st.length ≤ 8) (hI : InvX (absX st)) (w : World) (h : RA w S r cb hb cc hc st) : Calls Tryz.prog 18 #[.pointer (some ⟨r, 0, none⟩)] w fun e w' => e = .returned (.int .i64 (clkX (absX st))) ∧ Ext w w' := by
  have r0 := hide (h.1.1.cell 0 rfl)
  have hcl := hide (fun i p (hp : st[i]? = some p) => h.clock hp)
  have hlt := h.1.1.lt
  have hcb := h.cblt
  haveI : In r w := ⟨hlt⟩
  haveI : In cb w := ⟨hcb⟩
  have r0' := r0.out
  obtain ⟨p0, hp0⟩ : ∃ p, st[0]? = some p := ⟨_, List.getElem?_eq_getElem (by omega)⟩
  have c0 := hcl.out 0 p0 hp0
  have h1 : Hid (p0.1 = clkX (absX (st.take 1))) := by
    have := hI (p0.1, eds p0.2.2) (List.mem_map.2 ⟨p0, List.mem_of_getElem? hp0, rfl⟩)
    show _ = _
    rw [take_snoc (k := 0) hp0]
    simp only [List.take_zero, List.nil_append, absX, List.map_cons, List.map_nil, clkX, List.foldl_cons, List.foldl_nil]
    simp only at this
    omega
  clear h hI
  obtain ⟨R, hR⟩ : ∃ R, R = clkX (absX st) := ⟨_, rfl⟩
  rw [← hR]
  replace hR := hide hR
  obtain ⟨z0, v0, L0⟩ := p0
  simp only at c0 h1
  clear hp0
  have hn0 : (0 : Int) < st.length := by omega
  go_enter Tryz.func18, Tryz.ntmps18
  go_wp2_with fail
  go_loopg [3, 4] (st.length - 1) (fun gh t i wr => ∃ (k : Nat) (z : Int), t = .int .i64 z ∧ i = .int .i64 k ∧ 1 ≤ k ∧ k + gh = st.length ∧ Hid (z = clkX (absX (st.take k))) ∧ Ext w wr)
  case atStart => exact ⟨1, z0, rfl, rfl, by omega, by omega, h1, by first | exact Ext.refl _ | exact (Ext.refl _).drewN _⟩
  case round =>
    obtain ⟨k, z, rfl, rfl, hk1, hk, hz, hX⟩ := hrel
    have q0 := cell_later hX r0.out
    have hal : r < wr.heap.size := block_lt_of_cell q0
    haveI : In r wr := ⟨hal⟩
    by_cases hlt2 : k < st.length
    · obtain ⟨p, hp⟩ : ∃ p, st[k]? = some p := ⟨_, List.getElem?_eq_getElem hlt2⟩
      have cc0 := cell_later hX (hcl.out k p hp)
      have hib : cb < wr.heap.size := block_lt_of_cell cc0
      haveI : In cb wr := ⟨hib⟩
      have hkI : (k : Int) < st.length := by omega
      have hnx : Hid (min z p.1 = clkX (absX (st.take (k + 1)))) := by
        show _ = _
        rw [take_snoc hp, show absX (st.take k ++ [p]) = absX (st.take k) ++ [(p.1, eds p.2.2)] by simp [absX], clk_snoc, hz.out]
      obtain ⟨c, v, L⟩ := p
      simp only at cc0 hnx
      clear hp hcl hz c0
      by_cases hm : c < z
      · rw [Int.min_eq_right (by omega)] at hnx
        have d1 : decide (c < z) = true := decide_eq_true hm
        go_wp2_with fail
        go_roundg (st.length - (k + 1))
        case measure => omega
        case rel => exact ⟨k + 1, c, rfl, by go_num, by omega, by omega, hnx, hX⟩
      · rw [Int.min_eq_left (by omega)] at hnx
        have d1 : decide (c < z) = false := decide_eq_false hm
        go_wp2_with fail
        go_roundg (st.length - (k + 1))
        case measure => omega
        case rel => exact ⟨k + 1, z, rfl, by go_num, by omega, by omega, hnx, hX⟩
    · have hge : (st.length : Int) ≤ k := by omega
      have hRz : Hid (R = z) := by show _ = _; rw [hR.out, hz.out, List.take_of_length_le (by omega)]
      clear hz hR hcl
      go_wp2_with fail
      go_returns
      rw [hRz.out]
      exact ⟨rfl, hX⟩
set_option maxHeartbeats 8000000 in
set_option maxRecDepth 100000 in
theorem refAlHeld_c (S : List Nat) (r cb hb cc hc : Nat) (st : List Hi) (hn8 : st.length ≤ 8) (hN : heldN (absX st) ≤ 1000000000) (w : World) (h : RA w S r cb hb cc hc st) : Calls Tryz.prog 19 #[.pointer (some ⟨r, 0, none⟩)] w fun e w' => e = .returned (.int .i64 (heldN (absX st))) ∧ Ext w w' := by
  have r0 := hide (h.1.1.cell 1 rfl)
  have hcl := hide (fun i p (hp : st[i]? = some p) => And.intro (h.hold hp) (ew_one (h.2.1 p (List.mem_of_getElem? hp))))
  clear h
  obtain ⟨R, hR⟩ : ∃ R, R = heldN (absX st) := ⟨_, rfl⟩
  rw [← hR]
  have hRN := hide (show ∀ k, heldN (absX (st.take k)) ≤ 1000000000 from fun k => by
    refine Nat.le_trans ?_ hN
    rw [← absX_take]
    exact held_take (absX st) k)
  replace hR := hide hR
  go_enter Tryz.func19, Tryz.ntmps19
  go_wp2_with fail
  go_loopg [3, 4] st.length (fun gh t i wr => ∃ (k z : Nat), t = .int .i64 z ∧ i = .int .i64 k ∧ k + gh = st.length ∧ Hid (z = heldN (absX (st.take k))) ∧ Ext w wr)
  case atStart => exact ⟨0, 0, rfl, rfl, by omega, by simp [Hid, heldN, absX], Ext.refl w⟩
  case round =>
    obtain ⟨k, z, rfl, rfl, hk, hz, hX⟩ := hrel
    have q0 := cell_later hX r0.out
    have hal : r < wr.heap.size := block_lt_of_cell q0
    haveI : In r wr := ⟨hal⟩
    by_cases hlt2 : k < st.length
    · obtain ⟨p, hp⟩ : ∃ p, st[k]? = some p := ⟨_, List.getElem?_eq_getElem hlt2⟩
      obtain ⟨d1, A, cap, hv⟩ := hcl.out k p hp
      have c1 := cell_later hX d1
      have hib : hb < wr.heap.size := block_lt_of_cell c1
      haveI : In hb wr := ⟨hib⟩
      have hkI : (k : Int) < st.length := by omega
      have hnx : Hid (z + p.2.2.length = heldN (absX (st.take (k + 1)))) := by
        show _ = _
        rw [take_snoc hp, show absX (st.take k ++ [p]) = absX (st.take k) ++ [(p.1, eds p.2.2)] by simp [absX], held_snoc, hz.out]
        simp [eds]
      have hz9 := hRN.out (k + 1)
      rw [← hnx.out] at hz9
      obtain ⟨c, v, L⟩ := p
      simp only at c1 hnx hv hz9
      subst hv
      clear hp hcl hz d1 hRN
      go_wp2_with fail
      go_roundg (st.length - (k + 1))
      case measure => omega
      case rel => exact ⟨k + 1, z + L.length, by go_num, by go_num, by omega, hnx, hX⟩
    · have hge : (st.length : Int) ≤ k := by omega
      have hRz : Hid (R = z) := by show _ = _; rw [hR.out, hz.out, List.take_of_length_le (by omega)]
      clear hz hR hcl hRN
      go_wp2_with fail
      go_returns
      rw [hRz.out]
      exact ⟨rfl, hX⟩
end Go.Proofs.YtjmoifbajjemmaaGreat
set_option linter.unusedVariables false
set_option linter.unusedSimpArgs false
namespace Go.Proofs.YtjmoifbajjemmaaGreat
open Go.RowKit
theorem ins_same {rows : List (List Vl)} {r : List Vl} (n : Nat) (h : rows[n]? = some r) : insR rows r = rows := by
  unfold insR
  rw [if_pos (hasR_iff.2 (List.mem_of_getElem? h))]
theorem ins_split {rows : List (List Vl)} {r : List Vl} (hv : ∀ y ∈ rows, mayR y = true) (hr : mayR r = true) (ha : rows.Pairwise rlt) (n : Nat) (h1 : ∀ x ∈ rows.take n, cmpT x r < 0) (h2 : ∀ x, rows[n]? = some x → ¬ cmpT x r < 0) (h3 : rows[n]? ≠ some r) : insR rows r = rows.take n ++ r :: rows.drop n := by
  have key : ∀ x ∈ rows.drop n, 0 < cmpT x r := by
    have hd : (rows.drop n).Pairwise rlt := ha.sublist (List.drop_sublist n rows)
    have h0 : (rows.drop n)[0]? = rows[n]? := by rw [List.getElem?_drop, Nat.add_zero]
    have hsub : ∀ y ∈ rows.drop n, y ∈ rows := fun y hy => List.mem_of_mem_drop hy
    generalize rows.drop n = t at hd h0 hsub
    rcases t with _ | ⟨y, t⟩
    · intro x hx; simp at hx
    · simp only [List.getElem?_cons_zero] at h0
      have hyr : rlt r y := by
        rcases row_ways (hv y (hsub y (by simp))) hr with h | h | h
        · exact absurd h.2 (h2 y h0.symm)
        · exact absurd (h ▸ h0.symm) h3
        · exact h
      intro x hx
      have hrx : rlt r x := by
        rcases List.mem_cons.1 hx with rfl | hx
        · exact hyr
        · exact rlt_trans hyr ((List.pairwise_cons.1 hd).1 x hx)
      have := hrx.2; have := cmpT_swap x r; omega
  have hno : r ∉ rows := by
    intro h
    rw [← List.take_append_drop n rows] at h
    have h0 := cmpT_self hr
    rcases List.mem_append.1 h with h | h
    · have := h1 r h; omega
    · have := key r h; omega
  unfold insR
  rw [if_neg (by rw [hasR_iff]; exact hno)]
  have e1 : rows.filter (fun x => decide (cmpT x r < 0)) = rows.take n := by
    conv => lhs; rw [← List.take_append_drop n rows]
    rw [List.filter_append, List.filter_eq_self.2 (fun x hx => by simpa using h1 x hx), List.filter_eq_nil_iff.2 (fun x hx => by have := key x hx; simp; omega), List.append_nil]
  have e2 : rows.filter (fun x => decide (0 < cmpT x r)) = rows.drop n := by
    conv => lhs; rw [← List.take_append_drop n rows]
    rw [List.filter_append, List.filter_eq_nil_iff.2 (fun x hx => by have := h1 x hx; simp; omega), List.filter_eq_self.2 (fun x hx => by simpa using key x hx), List.nil_append]
  rw [e1, e2]
theorem rowsL_take_succ (l : List Ed) (k : Nat) (e : Ed) (h : l[k]? = some e) : rowsL (l.take (k + 1)) = insR (rowsL (l.take k)) e.1 := by
  rw [List.take_add_one, h, Option.toList_some, rowsL_snoc]
/-- A cell for each row. -/
abbrev Rv := Value × List Vl
abbrev rvs (M : List Rv) : List (List Vl) := M.map Prod.snd
abbrev rcs (M : List Rv) : List Value := M.map Prod.fst

/-- What is asked of each edge, and of two that are neighbours. -/
def okE (e : Ed) : Bool := mayR e.1 && mayJ [e.2]
theorem mayJ_one (j : Jp) : mayJ [j] = okJ j := by
  rw [Bool.eq_iff_iff, mayJ_iff]
  constructor
  · rintro ⟨-, h, -⟩; exact h j (by simp)
  · intro h; exact ⟨by simp, by simpa using h, by simp [Asc]⟩
theorem okE_iff (e : Ed) : okE e = true ↔ mayR e.1 = true ∧ okJ e.2 = true := by unfold okE; rw [Bool.and_eq_true, mayJ_one]
/-- The first n edges are in form, each by itself and behind the one ahead of it. -/
def Chk (l : List Ed) (n : Nat) : Prop := (∀ i e, i < n → l[i]? = some e → okE e = true) ∧ ∀ i a b, i + 1 < n → l[i]? = some a → l[i + 1]? = some b → elt a b
theorem Chk.zero (l : List Ed) : Chk l 0 := ⟨fun i e h => by omega, fun i a b h => by omega⟩
theorem Chk.first {l : List Ed} {e : Ed} (h : l[0]? = some e) (ok : okE e = true) : Chk l 1 :=
  ⟨fun i x hi hx => by obtain rfl : i = 0 := by omega
                       rw [h] at hx; cases hx; exact ok, fun i a b hi => by omega⟩
theorem Chk.next {l : List Ed} {k : Nat} {d e : Ed} (c : Chk l (k + 1)) (hd : l[k]? = some d) (he : l[k + 1]? = some e) (ok : okE e = true) (lt : elt d e) : Chk l (k + 2) := by
  refine ⟨fun i x hi hx => ?_, fun i a b hi ha hb => ?_⟩
  · rcases Nat.lt_or_ge i (k + 1) with h | h
    · exact c.1 i x h hx
    · obtain rfl : i = k + 1 := by omega
      rw [he] at hx; cases hx; exact ok
  · rcases Nat.lt_or_ge (i + 1) (k + 1) with h | h
    · exact c.2 i a b h ha hb
    · obtain rfl : i = k := by omega
      rw [hd] at ha; rw [he] at hb; cases ha; cases hb; exact lt
theorem Chk.pairwise {l : List Ed} (c : Chk l l.length) : l.Pairwise elt := by
  have key : ∀ (m : List Ed), (∀ i a b, m[i]? = some a → m[i + 1]? = some b → elt a b) → m.Pairwise elt := by
    intro m
    induction m with
    | nil => intro _; exact .nil
    | cons a m ih =>
      intro h
      have ih' := ih fun i x y hx hy => h (i + 1) x y (by simpa using hx) (by simpa using hy)
      refine List.pairwise_cons.2 ⟨?_, ih'⟩
      rcases m with _ | ⟨b, m⟩
      · simp
      · have hab := h 0 a b rfl rfl
        intro x hx
        rcases List.mem_cons.1 hx with rfl | hx
        · exact hab
        · exact elt_trans hab ((List.pairwise_cons.1 ih').1 x hx)
  refine key l fun i a b ha hb => c.2 i a b ?_ ha hb
  have := (List.getElem?_eq_some_iff.1 hb).1
  exact this
theorem mayE_elt {l : List Ed} (h : mayE l = true) {i : Nat} {a b : Ed} (ha : l[i]? = some a) (hb : l[i + 1]? = some b) : elt a b := by
  obtain ⟨-, -, h3, -⟩ := mayE_doc.1 h
  obtain ⟨q, rfl⟩ := List.getElem?_eq_some_iff.1 ha
  obtain ⟨q', rfl⟩ := List.getElem?_eq_some_iff.1 hb
  exact List.pairwise_iff_getElem.1 h3 i (i + 1) q q' (by omega)
theorem mayE_okE {l : List Ed} (h : mayE l = true) {e : Ed} (he : e ∈ l) : okE e = true := (okE_iff e).2 ((mayE_doc.1 h).2.1 e he)
theorem mayE_chk {l : List Ed} (hl : l.length ≤ 4096) (c : Chk l l.length) (h : ∀ r ∈ rowsL l, (jmps l r).length ≤ 1024) : mayE l = true := by
  refine mayE_doc.2 ⟨hl, fun e he => ?_, c.pairwise, h⟩
  obtain ⟨i, hi⟩ := List.getElem?_of_mem he
  exact (okE_iff e).1 (c.1 i e (List.getElem?_eq_some_iff.1 hi).1 hi)
theorem Chk.rows {l : List Ed} (c : Chk l l.length) : ∀ e ∈ l, mayR e.1 = true := fun e he => by
  obtain ⟨i, hi⟩ := List.getElem?_of_mem he
  exact ((okE_iff e).1 (c.1 i e (List.getElem?_eq_some_iff.1 hi).1 hi)).1
theorem mayE_false {l : List Ed} (h : mayE l = true → False) : mayE l = false := by
  cases hh : mayE l
  · rfl
  · exact (h hh).elim
/-- Which rows' jumps a table asks about. -/
theorem tabE_rows {l : List Ed} (h : mayE l = true) : tabE l = (rowsL l).all fun r => decide (0 ≤ leV (jmps l r)) := by
  unfold tabE
  rw [h, Bool.true_and, grp_eq (mayE_rise h)]
  unfold byRows
  rw [List.all_map]
  rfl
theorem byRows_get {l : List Ed} {k : Nat} {r : List Vl} (h : (rowsL l)[k]? = some r) : (byRows l)[k]? = some (r, jmps l r) := by
  unfold byRows; rw [List.getElem?_map, h]; rfl
theorem byRows_len (l : List Ed) : (byRows l).length = (rowsL l).length := by unfold byRows; rw [List.length_map]
/-- What is made of the first k rows. -/
def Evs (op : List Jp → Int × List Jp) (l : List Ed) (k : Nat) (acc : List Ed) : Prop := (∀ g ∈ (byRows l).take k, (op g.2).1 = 0) ∧ acc = evL op ((byRows l).take k)
theorem Evs.zero (op : List Jp → Int × List Jp) (l : List Ed) : Evs op l 0 [] := ⟨by simp, by simp [evL]⟩
theorem Evs.next {op : List Jp → Int × List Jp} {l : List Ed} {k : Nat} {acc : List Ed} {r : List Vl} (h : Evs op l k acc) (hr : (rowsL l)[k]? = some r) (h0 : (op (jmps l r)).1 = 0) : Evs op l (k + 1) (acc ++ (op (jmps l r)).2.map fun j => (r, j)) := by
  have hx := byRows_get hr
  have e : (byRows l).take (k + 1) = (byRows l).take k ++ [(r, jmps l r)] := by rw [List.take_add_one, hx]; rfl
  refine ⟨fun g hg => ?_, ?_⟩
  · rw [e] at hg
    rcases List.mem_append.1 hg with hg | hg
    · exact h.1 g hg
    · obtain rfl := List.mem_singleton.1 hg; exact h0
  · rw [e, evL_snoc, ← h.2]
theorem evE_ok' {op : List Jp → Int × List Jp} : ∀ {G : List Gp}, (∀ g ∈ G, (op g.2).1 = 0) → evE op G = 0
  | [], _ => rfl
  | g :: t, h => by unfold evE; rw [if_pos (h g (by simp))]; exact evE_ok' fun x hx => h x (by simp [hx])
theorem evE_bad' {op : List Jp → Int × List Jp} : ∀ {G : List Gp} {k : Nat} {x : Gp}, (∀ g ∈ G.take k, (op g.2).1 = 0) → G[k]? = some x → (op x.2).1 ≠ 0 → evE op G = (op x.2).1
  | g :: t, 0, x, _, hx, h => by simp at hx; subst hx; unfold evE; rw [if_neg h]
  | g :: t, k + 1, x, hp, hx, h => by
    unfold evE
    rw [if_pos (hp g (by simp))]
    exact evE_bad' (k := k) (fun y hy => hp y (by simp [hy])) (by simpa using hx) h
theorem Evs.bad {op : List Jp → Int × List Jp} {l : List Ed} {k : Nat} {acc : List Ed} {r : List Vl} (h : Evs op l k acc) (hr : (rowsL l)[k]? = some r) (h0 : (op (jmps l r)).1 ≠ 0) : eachE op (byRows l) = (op (jmps l r)).1 ∧ eachR op (byRows l) = [] := by
  have e := evE_bad' h.1 (byRows_get hr) h0
  have e2 : eachE op (byRows l) = (op (jmps l r)).1 := by unfold eachE; rw [if_neg (by rw [e]; exact h0), e]
  exact ⟨e2, by unfold eachR; rw [if_neg (by rw [e2]; exact h0)]⟩
theorem Evs.done {op : List Jp → Int × List Jp} {l : List Ed} {k : Nat} {acc : List Ed} (h : Evs op l k acc) (hk : (rowsL l).length ≤ k) : (4096 < acc.length → eachE op (byRows l) = 7 ∧ eachR op (byRows l) = []) ∧ (¬ 4096 < acc.length → eachE op (byRows l) = 0 ∧ eachR op (byRows l) = acc) := by
  obtain ⟨h1, h2⟩ := h
  rw [List.take_of_length_le (by rw [byRows_len]; exact hk)] at h1 h2
  have e := evE_ok' h1
  constructor
  · intro hl
    have e2 : eachE op (byRows l) = 7 := by unfold eachE; rw [if_pos e, ← h2, if_pos hl]
    exact ⟨e2, by unfold eachR; rw [if_neg (by rw [e2]; decide)]⟩
  · intro hl
    have e2 : eachE op (byRows l) = 0 := by unfold eachE; rw [if_pos e, ← h2, if_neg hl]
    exact ⟨e2, by unfold eachR; rw [if_pos e2, h2]⟩
end Go.Proofs.YtjmoifbajjemmaaGreat
