/-
  A helper of ours: no claim of its own. Layer 9 (step): the document's side: the other sign, parts, jumps put together.
-/
import Derived.Test.YtobmjcehgpmfgaaGreatBagM
import Derived.Test.YtobmjcehgpmfgaaGreatBagJ
import Derived.Test.YtobmjcehgpmfgaaGreatBagE
import Derived.Test.YtobmjcehgpmfgaaGreatEdgGs
import Derived.Test.YtobmjcehgpmfgaaGreatBagB
import Derived.Test.YtobmjcehgpmfgaaGreatStepZ
import Derived.Test.YtobmjcehgpmfgaaGreatEdgEn
set_option linter.unusedVariables false
set_option linter.unusedSimpArgs false
namespace Go.Proofs.YtobmjcehgpmfgaaGreat
open Go.RowKit
theorem reR_may {f : List Jp} {t : Int} (h : reE f t = 0) : mayJ f = true ∧ mayJ (reR f t) = true := by
  obtain ⟨h1, h2⟩ := reE_zero.1 h
  unfold reR
  rw [if_pos h]
  exact ⟨h1, h2⟩
theorem atV_jv {f : List Jp} (h : mayJ f = true) (p : Int) : atV f p = jv f p := by unfold atV; rw [h]; rfl
theorem jv_stay {f : List Jp} {p : Int} (h : ∀ j ∈ f, j.1 ≠ p) : jv f p = jv f (p - 1) := by
  induction f with
  | nil => rfl
  | cons a r ih =>
    rw [jv, jv, ih (fun j hj => h j (List.mem_cons_of_mem _ hj))]
    have := h a (by simp)
    congr 1
    by_cases h1 : a.1 ≤ p
    · rw [if_pos h1, if_pos (by omega)]
    · rw [if_neg h1, if_neg (by omega)]
theorem leF_iff (f : List Jp) : ∀ (g : List Jp) (m : Int), 0 ≤ leF f m g ↔ 0 ≤ m ∧ ∀ j ∈ g, 0 ≤ jv f j.1
  | [], m => by simp [leF]
  | a :: g, m => by
    have ih := leF_iff f g (min m (jv f a.1))
    have e : leF f m (a :: g) = leF f (min m (jv f a.1)) g := by simp [leF]
    rw [e, ih]
    constructor
    · rintro ⟨h1, h2⟩
      refine ⟨by omega, fun j hj => ?_⟩
      rcases List.mem_cons.1 hj with rfl | hj
      · omega
      · exact h2 j hj
    · rintro ⟨h1, h2⟩
      exact ⟨by have := h2 a (by simp); omega, fun j hj => h2 j (List.mem_cons_of_mem _ hj)⟩
/-- Nowhere below none. -/
theorem le_iff {f : List Jp} (h : mayJ f = true) : 0 ≤ leV f ↔ ∀ p, -1 ≤ p → 0 ≤ jv f p := by
  unfold leV
  rw [if_pos h, leF_iff]
  constructor
  · rintro ⟨h1, h2⟩
    have key : ∀ n : Nat, 0 ≤ jv f ((n : Int) - 1) := by
      intro n
      induction n with
      | zero => exact h1
      | succ n ih =>
        by_cases hj : ∃ j ∈ f, j.1 = ((n + 1 : Nat) : Int) - 1
        · obtain ⟨j, hj, e⟩ := hj
          rw [← e]; exact h2 j hj
        · rw [jv_stay (fun j hj' e => hj ⟨j, hj', e⟩)]
          have : ((n + 1 : Nat) : Int) - 1 - 1 = (n : Int) - 1 := by omega
          rw [this]; exact ih
    intro p hp
    have := key (p + 1).toNat
    rwa [show (((p + 1).toNat : Nat) : Int) - 1 = p by omega] at this
  · intro k
    exact ⟨k _ (Int.le_refl _), fun j hj => k _ (mayJ_at h j hj).1⟩
theorem le_re {f : List Jp} {t : Int} (h0 : 0 ≤ t) (ht : t < 1125899906842624) (hf : reE f t = 0) (hl : 0 ≤ leV f) : 0 ≤ leV (reR f t) := by
  obtain ⟨hfm, hFm⟩ := reR_may hf
  rw [le_iff hFm]
  rw [le_iff hfm] at hl
  intro p hp
  rw [← atV_jv hFm]
  by_cases hpt : p < t
  · rw [re_left hf hpt hp ht, atV_jv hfm]; exact hl _ (by omega)
  · rw [re_right hf (by omega) h0 ht, atV_jv hfm]; exact hl p hp
theorem reC_len (f : List Jp) (t : Int) : (reC f t).length ≤ f.length := by
  have e := congrArg List.length (cut_eq f t)
  rw [List.length_append] at e
  unfold reC
  split
  · rename_i h
    have : cutL f t ≠ [] := fun h' => h (by rw [h']; rfl)
    have := List.length_pos_iff.2 this
    rw [List.length_cons]; omega
  · omega
theorem reR_len {f : List Jp} {t : Int} (ht : t < 1125899906842624) (hf : reE f t = 0) : (reR f t).length ≤ f.length := by
  unfold reR
  rw [if_pos hf, ← rest_code (reE_zero.1 hf).1 t ht]
  exact reC_len f t
end Go.Proofs.YtobmjcehgpmfgaaGreat
set_option linter.unusedVariables false
set_option linter.unusedSimpArgs false
set_option linter.unusedSectionVars false
namespace Go.Proofs.YtobmjcehgpmfgaaGreat
open Go.RowKit
/-- What is from a tick on, row by row. -/
def foX (X : List Ed) (t : Int) : List Ed := evL (reOp t) (byRows X)
theorem reR_nil {t : Int} (ht : t < 1125899906842624) : reE [] t = 0 ∧ reR [] t = [] := by
  have h1 : mayJ [] = true := by decide
  have h2 : reL [] t = [] := by rw [← rest_code h1 t ht]; simp [reC, cutL, cutR, js]
  have h3 : reE [] t = 0 := reE_zero.2 ⟨h1, by rw [h2]; exact h1⟩
  exact ⟨h3, by unfold reR; rw [if_pos h3, h2]⟩
theorem sum_leI {α : Type} (f g : α → Int) : ∀ (l : List α), (∀ x ∈ l, f x ≤ g x) → (l.map f).sum ≤ (l.map g).sum
  | [], _ => by simp
  | a :: l, h => by
    have := sum_leI f g l (fun x hx => h x (List.mem_cons_of_mem _ hx))
    have := h a (by simp)
    rw [List.map_cons, List.map_cons, List.sum_cons, List.sum_cons]; omega
section
variable {X : List Ed} {t : Int} (hX : mayE X = true) (ht : t < 1125899906842624) (h : ∀ r, reE (jmps X r) t = 0)
include hX ht h
theorem fo_row (r : List Vl) : jmps (foX X t) r = reR (jmps X r) t := jmps_each (op := reOp t) (reR_nil ht).2 (mayE_rise hX).1 r
theorem fo_may : mayE (foX X t) = true := by
  refine may_each (op := reOp t) (reR_nil ht).2 (mayE_rise hX).1 ?_ fun r => (reR_may (h r)).2
  have h1 := ev_lenI (reOp t) X
  have h2 := len_rowsI hX
  have h3 := sum_leI (fun r => (((reOp t) (jmps X r)).2.length : Int)) (fun r => ((jmps X r).length : Int)) (rowsL X) (fun r _ => by
    have := reR_len ht (h r)
    show ((reR (jmps X r) t).length : Int) ≤ _
    omega)
  have h4 := mayE_len hX
  omega
theorem fo_tab (h0 : 0 ≤ t) (hT : tabE X = true) : tabE (foX X t) = true := by
  rw [tabE_rows (fo_may hX ht h), List.all_eq_true]
  intro r _
  rw [decide_eq_true_iff, fo_row hX ht h]
  refine le_re h0 ht (h r) ?_
  by_cases hr : r ∈ rowsL X
  · rw [tabE_rows hX] at hT
    have := List.all_eq_true.1 hT r hr
    rwa [decide_eq_true_iff] at this
  · rw [row_none hX hr]; decide
theorem fo_in (hi : edsIn X) : edsIn (foX X t) := by
  intro e he x hx
  have hr : e.1 ∈ rowsL (foX X t) := ((rowsL_ok (mayE_rise (fo_may hX ht h)).1).2 _).2 ⟨e, he, rfl⟩
  rw [mem_rows (mayE_rise (fo_may hX ht h)).1, fo_row hX ht h] at hr
  refine (rows_ok hX hi ((mem_rows (mayE_rise hX).1 _).2 fun hz => ?_)).2 x hx
  rw [hz, (reR_nil ht).2] at hr
  exact hr rfl
theorem fo_upd {T U : List Fe} (h0 : 0 ≤ t) (hx : BagX T X) (hU : (U.map (·.2.2)).Perm (T.map fun p => restG t p.2.2)) : BagX (updT rowB T U) (foX X t) := by
  refine ⟨fo_tab hX ht h h0 hx.1, ?_, fo_in hX ht h hx.2.2⟩
  have hUg : (U.map (·.2.2)).Perm ((grp X).map (restG t)) := by
    refine hU.trans ?_
    have e : (T.map fun p => restG t p.2.2) = (T.map (·.2.2)).map (restG t) := by rw [List.map_map]; rfl
    rw [e]
    exact hx.2.1.map _
  have hnone : (T.filter fun q => !U.any fun p => (fent rowB q).1.sameKey (fent rowB p).1) = [] := by
    rw [List.filter_eq_nil_iff]
    intro p hp
    have hm : restG t p.2.2 ∈ U.map (·.2.2) := hU.mem_iff.2 (List.mem_map.2 ⟨p, hp, rfl⟩)
    obtain ⟨u, hu, e⟩ := List.mem_map.1 hm
    have hr : u.2.2.1 = p.2.2.1 := by rw [e]; rfl
    have : (U.any fun q => (fent rowB p).1.sameKey (fent rowB q).1) = true := List.any_eq_true.2 ⟨u, hu, by rw [same_ent, hr]; simp⟩
    rw [this]; decide
  have hUn : (U.map (·.2.2.1)).Nodup := by
    have e : U.map (·.2.2.1) = (U.map (·.2.2)).map Prod.fst := by rw [List.map_map]; rfl
    rw [e]
    refine ((hUg.map Prod.fst).nodup_iff).2 ?_
    rw [List.map_map]
    exact grp_nodup hX
  unfold updT
  rw [hnone, List.nil_append]
  refine (List.perm_ext_iff_of_nodup ?_ ?_).2 fun g => ?_
  · refine nodup_of_map Prod.fst ?_
    rw [List.map_map]
    exact (List.filter_sublist.map _).nodup hUn
  · exact nodup_of_map Prod.fst (grp_nodup (fo_may hX ht h))
  · rw [grp_iff (fo_may hX ht h), fo_row hX ht h, List.mem_map]
    constructor
    · rintro ⟨u, hu, rfl⟩
      obtain ⟨hu1, hu2⟩ := List.mem_filter.1 hu
      obtain ⟨x, hx1, e⟩ := List.mem_map.1 (hUg.mem_iff.1 (List.mem_map.2 ⟨u, hu1, rfl⟩))
      have hxe := ((grp_iff hX x).1 hx1).1
      rw [← e]
      refine ⟨by show reR x.2 t = reR (jmps X x.1) t; rw [← hxe], fun hz => ?_⟩
      have : u.2.2.2 = [] := by rw [← e]; exact hz
      rw [this] at hu2
      cases hu2
    · rintro ⟨h1, h2⟩
      have hne : jmps X g.1 ≠ [] := fun hz => h2 (by rw [h1, hz, (reR_nil ht).2])
      have hg : (g.1, jmps X g.1) ∈ grp X := (grp_iff hX _).2 ⟨rfl, hne⟩
      obtain ⟨u, hu, e⟩ := List.mem_map.1 (hUg.mem_iff.2 (List.mem_map.2 ⟨_, hg, rfl⟩))
      have e2 : u.2.2 = g := by rw [e]; exact Prod.ext rfl h1.symm
      refine ⟨u, List.mem_filter.2 ⟨hu, ?_⟩, e2⟩
      rw [e2]
      cases hg2 : g.2 with
      | nil => exact absurd hg2 h2
      | cons _ _ => rfl
end
theorem re_two {f : List Jp} {t : Int} (hf : mayJ f = true) (h : reE f t ≠ 0) : reE f t = 7 := by
  unfold reE at h ⊢
  rw [hf] at h ⊢
  simp only [if_true] at h ⊢
  unfold full at h ⊢
  split at h
  · exact absurd rfl h
  · rename_i hh; rw [if_neg hh]
/-- A bag that forgets. -/
theorem bagForget_x (B mb n : Nat) (mk t : Int) (T : List Fe) (X : List Ed) (w : World) (h : Bg rowB w [B, mb] B mb n mk T) (hx : BagX T X) (hBm : B ≠ mb) (hn : n ≤ 900000000) (hmk : mk < t) (h0 : 0 ≤ t) (ht : t < 1125899906842624) : Calls Tryz.prog 19 #[.pointer (some ⟨B, 0, none⟩), .int .i64 t] w fun e w' =>
    ((∃ r, reE (jmps X r) t ≠ 0) ∧ e = .returned (.int .i64 7) ∧ Ext w w') ∨
    ((∀ r, reE (jmps X r) t = 0) ∧ e = .returned (.int .i64 0) ∧ ∃ T' n', Bg rowB w' [B, mb] B mb n' t T' ∧ n' ≤ n + 4096 ∧ BagX T' (foX X t) ∧ Fr [B, mb] w w') := by
  have hml := h.2.1.lt
  have hbl := h.1.lt
  have hTl : T.length ≤ 4096 := by
    have k := hx.2.1.length_eq
    rw [List.length_map] at k
    have k2 := grp_len2 X
    have k3 := mayE_len hx.may
    omega
  refine (bagForget_c rowB [B, mb] B mb n mk t T (by omega) w h hBm (by intro x hx'; simp only [List.mem_cons, List.not_mem_nil, or_false] at hx'; omega) ⟨by simp, by simp⟩).mono ?_
  rintro e w' ⟨-, h2⟩
  rcases h2 hmk with ⟨p, hp, hp0, rfl, hX⟩ | ⟨hz, rfl, U, hU, hUr, hM, hO, hF⟩
  · have hg := (grp_iff hx.may _).1 (hx.mem hp)
    have hj : mayJ p.2.2.2 = true := (mayE_iff.1 hx.may).2.2 _ (hx.mem hp)
    refine .inl ⟨⟨p.2.2.1, by rw [← hg.1]; exact hp0⟩, by rw [re_two hj hp0], hX⟩
  · have hall : ∀ r, reE (jmps X r) t = 0 := fun r => by
      by_cases hj : jmps X r = []
      · rw [hj]; exact (reR_nil ht).1
      · obtain ⟨p, hp, e⟩ := List.mem_map.1 (hx.2.1.mem_iff.2 ((grp_iff hx.may (r, jmps X r)).2 ⟨rfl, hj⟩))
        have := hz p hp
        rw [e] at this
        exact this
    have hUl := hU.length_eq
    rw [List.length_map, List.length_map] at hUl
    refine .inr ⟨hall, rfl, _, _, ⟨hO, hM, fun p hp => ?_⟩, by omega, fo_upd hx.may ht hall h0 hx hU, hF⟩
    unfold updT at hp
    rcases List.mem_append.1 hp with hp | hp
    · have hsub : ∀ y, y ∈ [B, mb] → y ∈ [B, mb] := fun y hy => hy
      have := h.2.2 p (List.mem_filter.1 hp).1
      exact ⟨Sl.fr this.1 hF hsub, Sl.fr this.2 hF hsub⟩
    · exact hUr p (List.mem_filter.1 hp).1
end Go.Proofs.YtobmjcehgpmfgaaGreat
set_option linter.unusedVariables false
set_option linter.unusedSimpArgs false
namespace Go.Proofs.YtobmjcehgpmfgaaGreat
open Go.RowKit
attribute [local go_sem] GW.cell GW.frozen In.eq_true In.le_true In.ne In.ne' In.ne_add In.ne_add' In.lt_add Upto.le_true Upto.le_add Upto.lt_add
/-- The document's bag: its block, its table, its mark. -/
def Rbg (w : World) (S : List Nat) (r : Nat) (mk : Int) (v : Value) (L : List Ve) : Prop := Ob w r 39 [v, .int .i64 mk] ∧ Ew w S v L ∧ r ∈ S
theorem Rbg.ext {w w' : World} {S : List Nat} {r : Nat} {mk : Int} {v : Value} {L : List Ve} (h : Rbg w S r mk v L) (k : Ext w w') : Rbg w' S r mk v L := ⟨h.1.ext k, h.2.1.ext k, h.2.2⟩
set_option maxHeartbeats 2000000 in
theorem refBagNew_c (w : World) : Calls Tryz.prog 16 #[] w fun e w' => ∃ r, e = .returned (.pointer (some ⟨r, 0, none⟩)) ∧ (w.heap.size ≤ r ∧ Rbg w' [r] r (-1) (.slice none 0 0) []) ∧ Ext w w' := by
  have h1 := hide (Ob.new w 39 [.slice none 0 0, .int .i64 (-1)])
  go_enter Tryz.func16, Tryz.ntmps16
  go_wp2_with fail
  go_returns
  exact ⟨_, rfl, ⟨Nat.le_refl _, h1.out, ⟨Sl.nil _ _ _, by simp⟩, by simp⟩, (Ext.refl w).alloc _⟩
def begE (L : List Ve) : Int := (L.map fun p => max p.2.2.2 0).sum
theorem begE_pos : ∀ L : List Ve, 0 ≤ begE L
  | [] => Int.le_refl _
  | p :: L => by have := begE_pos L; unfold begE at *; rw [List.map_cons, List.sum_cons]; omega
theorem begE_split (L : List Ve) (k : Nat) : begE L = begE (L.take k) + begE (L.drop k) := by
  unfold begE
  rw [← List.sum_append, ← List.map_append, List.take_append_drop]
set_option maxHeartbeats 8000000 in
set_option maxRecDepth 100000 in
theorem refBagCount_c (S : List Nat) (r : Nat) (mk : Int) (v : Value) (L : List Ve) (hC : begE L ≤ 1000000000000) (w : World) (h : Rbg w S r mk v L) : Calls Tryz.prog 23 #[.pointer (some ⟨r, 0, none⟩)] w fun e w' => e = .returned (.int .i64 (begE L)) ∧ Ext w w' := by
  have hO := h.1
  obtain ⟨A, cap, rfl, hl, hm, hat⟩ := ew_form h.2.1
  unfold maxLen at hm
  have c0 := hO.cell 0 rfl
  have hc0 := hide c0
  have hlt := hO.lt
  haveI : In r w := ⟨hlt⟩
  replace hat := hide hat
  clear h hO
  obtain ⟨R, hR⟩ : ∃ R, R = begE L := ⟨_, rfl⟩
  rw [← hR]
  rw [← hR] at hC
  replace hR := hide hR
  go_enter Tryz.func23, Tryz.ntmps23
  go_wp2_with fail
  go_loopg [3, 4] L.length (fun gh z i wr => ∃ (k : Nat) (x : Int), z = .int .i64 x ∧ i = .int .i64 k ∧ k + gh = L.length ∧ Hid (x = begE (L.take k)) ∧ Ext w wr)
  case atStart => exact ⟨0, 0, rfl, rfl, by omega, (by show _ = _; simp [begE]), Ext.refl w⟩
  case round =>
    obtain ⟨k, x, rfl, rfl, hk, hx, hX⟩ := hrel
    have q0 := cell_later hX hc0.out
    have ql := block_lt_of_cell q0
    haveI : In r wr := ⟨ql⟩
    have hxx := hx.out
    have hsp := begE_split L k
    have hd0 := begE_pos (L.drop k)
    have ht0 := begE_pos (L.take k)
    have hRR := hR.out
    by_cases hkl : k < L.length
    · have hkI : (k : Int) < L.length := by omega
      have dk : decide ((k : Int) < L.length) = true := decide_eq_true hkI
      obtain ⟨e, he⟩ : ∃ e, L[k]? = some e := ⟨_, List.getElem?_eq_getElem hkl⟩
      obtain ⟨b, o, rfl, -, hb, e0, e1, e2⟩ := hat.out k e he
      have k2 := cell_later hX e2
      have hbr : b < wr.heap.size := block_lt_of_cell k2
      haveI : In b wr := ⟨hbr⟩
      have hnx := hide (show x + max e.2.2.2 0 = begE (L.take (k + 1)) by rw [hxx, take_snoc he]; simp [begE])
      have hb1 := begE_split L (k + 1)
      have hb2 := begE_pos (L.drop (k + 1))
      have hmx : x + max e.2.2.2 0 ≤ 1000000000000 := by rw [hnx.out]; omega
      obtain ⟨ev, eq, ea, en⟩ := e
      simp only at k2 hnx hmx
      have hx0 : 0 ≤ x := by omega
      clear e0 e1 e2 he hat hsp hd0 ht0 hxx hx hb1 hb2 hRR
      by_cases hn0 : 0 < en
      · have d2 : decide (0 < en) = true := decide_eq_true hn0
        rw [Int.max_eq_left (by omega)] at hnx hmx
        go_wp2_with fail
        go_roundg (L.length - (k + 1))
        case measure => omega
        case rel => exact ⟨k + 1, x + en, by go_num, by go_num, by omega, hnx, hX⟩
      · have d2 : decide (0 < en) = false := decide_eq_false hn0
        rw [Int.max_eq_right (by omega), Int.add_zero] at hnx hmx
        go_wp2_with fail
        go_roundg (L.length - (k + 1))
        case measure => omega
        case rel => exact ⟨k + 1, x, by first | rfl | go_num, by go_num, by omega, hnx, hX⟩
    · have hge : (L.length : Int) ≤ k := by omega
      have dk : decide ((k : Int) < L.length) = false := decide_eq_false (by omega)
      have hRx : Hid (R = x) := by show _ = _; rw [hR.out, hxx, List.take_of_length_le (by omega)]
      clear hxx hsp hd0 ht0 hRR hx hat
      go_wp2_with fail
      go_returns
      rw [hRx.out]
      exact ⟨rfl, hX⟩
end Go.Proofs.YtobmjcehgpmfgaaGreat
set_option linter.unusedVariables false
set_option linter.unusedSimpArgs false
namespace Go.Proofs.YtobmjcehgpmfgaaGreat
open Go.RowKit
attribute [local go_sem] GW.cell GW.frozen In.eq_true In.le_true In.ne In.ne' In.ne_add In.ne_add' In.lt_add Upto.le_true Upto.le_add Upto.lt_add
set_option maxHeartbeats 8000000 in
set_option maxRecDepth 100000 in
theorem refNeg_c (l : List Jp) (v : Value) (w : World) (h : Jw w [] v l) : Calls Tryz.prog 150 #[v] w fun e w' => ∃ v', e = .returned (.tuple #[v', .int .i64 (ngE l)]) ∧ OwnJ w' w.heap.size v' (ngR l) ∧ Ext w w' := by
  have hm := hide (refStepMay_c l v w h)
  obtain ⟨A, cap, rfl, hl, hmc, hat⟩ := jw_form h
  unfold maxLen at hmc
  replace hat := hide hat
  unfold ngE ngR
  clear h
  cases hb : mayJ l
  · rw [hb] at hm
    rw [if_neg (by decide), if_neg (by decide)]
    replace hb := hide hb
    clear hat
    go_enter Tryz.func150, Tryz.ntmps150
    go_wp2_with (go_at_call 145; (with_reducible refine seq_gw hm.out ?_); intro g)
    go_returns
    exact ⟨_, rfl, World.ownsRow_nil _ _ _ _, g.grown⟩
  · rw [hb] at hm
    rw [if_pos rfl, if_pos rfl]
    have hnet := hide (mayJ_net hb)
    have hn : l.length ≤ 1024 := mayJ_len hb
    have hnI : (l.length : Int) ≤ 4096 := by omega
    obtain ⟨R, hR⟩ : ∃ R, R = ngL l := ⟨_, rfl⟩
    rw [← hR]
    replace hR := hide hR
    replace hb := hide hb
    go_enter Tryz.func150, Tryz.ntmps150
    go_wp2_with (go_at_call 145; (with_reducible refine seq_gw hm.out ?_); intro g; have hlit := hide (World.ownsRow_lit (base := w.heap.size) (e := 133) (size := 2) g.val #[] 0 (GW.size g) (by decide) rfl))
    go_loopg [4, 5] l.length (fun gh s i wr => ∃ (k : Nat) (acc : List Jp), i = .int .i64 k ∧ k + gh = l.length ∧ OwnJ wr w.heap.size s acc ∧ acc.length ≤ k ∧ Hid (acc = ngL (l.take k)) ∧ Ext w wr)
    case atStart => exact ⟨0, [], rfl, by omega, hlit.out, Nat.le_refl _, rfl, g.grown.alloc _⟩
    case round =>
      obtain ⟨k, acc, rfl, hk, ho, hak, hacc, hX⟩ := hrel
      have hzX := hX.size
      by_cases hlt : k < l.length
      · obtain ⟨x, hx⟩ : ∃ x, l[k]? = some x := ⟨_, List.getElem?_eq_getElem hlt⟩
        obtain ⟨b0, o0, rfl, -, hbl, c0, c1⟩ := hat.out k x hx
        have k0 := jcell_later hX c0
        have k1 := jcell_later hX c1
        have hbr : b0 < wr.heap.size := block_lt_of_cell k0
        obtain ⟨n1, n2⟩ := hnet.out x (List.mem_of_getElem? hx)
        have hnx := ng_next hx
        rw [← hacc.out] at hnx
        replace hnx := hide hnx
        clear c0 c1 hx hacc
        obtain ⟨xp, xn⟩ := x
        simp only at n1 n2 k0 k1
        have hws : IntKind.i64.wrap (-xn) = -xn := by simp [IntKind.wrap, IntKind.bits, IntKind.signed]; omega
        obtain ⟨C, ccap, rfl⟩ := own_form ho
        replace ho := hide ho
        replace k0 := hide k0
        replace k1 := hide k1
        go_wp2_with fail
        refine wp_region_list_tail 14 [(.is (.slice C acc.length ccap)), (.is (.slice (some ⟨b0, o0, none⟩) l.length cap)), (.is (.int .i64 k)), (.is (.pointer (some ⟨b0, o0 + k * 2, none⟩))), (.is (.pointer (some ⟨b0, o0 + k * 2, none⟩))), (.is (.int .i64 xp)), (.is (.slice (some ⟨b0, o0, none⟩) l.length cap)), (.is (.int .i64 k)), (.is (.pointer (some ⟨b0, o0 + k * 2, none⟩))), (.is (.pointer (some ⟨b0, o0 + k * 2 + 1, none⟩))), (.is (.int .i64 xn)), (.is (.int .i64 (-xn))), (.is (jm (xp, -xn))), oneJ (xp, -xn)] (by kernel_rfl) (by kernel_rfl) (by kernel_rfl) (by kernel_rfl) (by kernel_rfl) (by kernel_rfl) (by kernel_rfl) ?_ ?_
        · refine ⟨?_, ?_, ?_, ?_, ?_, ?_, ?_, ?_, ?_, ?_, ?_, ?_, ?_, ?_, trivial⟩
          · intro b w' h hE
            have f4 : b.tmps.getD 4 undef = .slice C acc.length ccap := hE 4 (of_decide_eq_true (by kernel_rfl))
            exact good_move (wanted_none rfl) rfl f4
          · intro b w' h hE
            have f0 : b.tmps.getD 0 undef = .slice (some ⟨b0, o0, none⟩) l.length cap := hE 0 (of_decide_eq_true (by kernel_rfl))
            exact good_move (wanted_none rfl) rfl f0
          · intro b w' h hE
            have f5 : b.tmps.getD 5 undef = .int .i64 k := hE 5 (of_decide_eq_true (by kernel_rfl))
            exact good_move (wanted_none rfl) rfl f5
          · intro b w' h hE
            have f17 : b.tmps.getD 17 undef = .slice (some ⟨b0, o0, none⟩) l.length cap := h.dep 1 _ 17 (by kernel_rfl) rfl rfl
            have f18 : b.tmps.getD 18 undef = .int .i64 k := h.dep 2 _ 18 (by kernel_rfl) rfl rfl
            exact good_index (wanted_none rfl) rfl f17 f18 (by simp [go_sem, hlt]) rfl
          · intro b w' h hE
            have f19 : b.tmps.getD 19 undef = .pointer (some ⟨b0, o0 + k * 2, none⟩) := h.dep 3 _ 19 (by kernel_rfl) rfl rfl
            exact good_field (wanted_none rfl) rfl f19 (by simp [go_sem]) rfl
          · intro b w' h hE
            have f20 : b.tmps.getD 20 undef = .pointer (some ⟨b0, o0 + k * 2, none⟩) := h.dep 4 _ 20 (by kernel_rfl) rfl rfl
            have c0 := jcell_later h.ext k0.out
            exact good_load (wanted_none rfl) rfl f20 (by simp [go_sem, c0]) rfl
          · intro b w' h hE
            have f0 : b.tmps.getD 0 undef = .slice (some ⟨b0, o0, none⟩) l.length cap := hE 0 (of_decide_eq_true (by kernel_rfl))
            exact good_move (wanted_none rfl) rfl f0
          · intro b w' h hE
            have f5 : b.tmps.getD 5 undef = .int .i64 k := hE 5 (of_decide_eq_true (by kernel_rfl))
            exact good_move (wanted_none rfl) rfl f5
          · intro b w' h hE
            have f22 : b.tmps.getD 22 undef = .slice (some ⟨b0, o0, none⟩) l.length cap := h.dep 6 _ 22 (by kernel_rfl) rfl rfl
            have f23 : b.tmps.getD 23 undef = .int .i64 k := h.dep 7 _ 23 (by kernel_rfl) rfl rfl
            exact good_index (wanted_none rfl) rfl f22 f23 (by simp [go_sem, hlt]) rfl
          · intro b w' h hE
            have f24 : b.tmps.getD 24 undef = .pointer (some ⟨b0, o0 + k * 2, none⟩) := h.dep 8 _ 24 (by kernel_rfl) rfl rfl
            exact good_field (wanted_none rfl) rfl f24 (by simp [go_sem]) rfl
          · intro b w' h hE
            have f25 : b.tmps.getD 25 undef = .pointer (some ⟨b0, o0 + k * 2 + 1, none⟩) := h.dep 9 _ 25 (by kernel_rfl) rfl rfl
            have c0 := jcell_later h.ext k1.out
            exact good_load (wanted_none rfl) rfl f25 (by simp [go_sem, c0]) rfl
          · intro b w' h hE
            have f26 : b.tmps.getD 26 undef = .int .i64 xn := h.dep 10 _ 26 (by kernel_rfl) rfl rfl
            have g26 : b.tmps[26]?.getD undef = .int .i64 xn := by rw [← Array.getD_eq_getD_getElem?]; exact f26
            skip
            exact good_run (wanted_none rfl) (by simp [execOp, Act.eval, go_sem, g26, Sem.run_bind, Sem.run_pure, Result.andThen_ok, hws]) rfl
          · intro b w' h hE
            have f21 : b.tmps.getD 21 undef = .int .i64 xp := h.dep 5 _ 21 (by kernel_rfl) rfl rfl
            have f27 : b.tmps.getD 27 undef = .int .i64 (-xn) := h.dep 11 _ 27 (by kernel_rfl) rfl rfl
            have g21 : b.tmps[21]?.getD undef = .int .i64 xp := by rw [← Array.getD_eq_getD_getElem?]; exact f21
            have g27 : b.tmps[27]?.getD undef = .int .i64 (-xn) := by rw [← Array.getD_eq_getD_getElem?]; exact f27
            exact good_run (wanted_none rfl) (by simp [execOp, Act.eval, go_sem, g21, g27, Sem.run_bind, Sem.run_pure, Result.andThen_ok]) rfl
          · intro b w' h hE
            have f28 : b.tmps.getD 28 undef = jm (xp, -xn) := h.dep 12 _ 28 (by kernel_rfl) rfl rfl
            have g28 : b.tmps[28]?.getD undef = jm (xp, -xn) := by rw [← Array.getD_eq_getD_getElem?]; exact f28
            have := buildJ1 (xp, -xn) w'
            refine good_grow (w' := w'.alloc (.cells #[.int .i64 ((xp, -xn)).1, .int .i64 ((xp, -xn)).2] 133)) (v := .slice (some ⟨w'.heap.size, 0, none⟩) 1 1) (wanted_none rfl) ?_ (oneJ_new (xp, -xn) w') ((Ext.refl _).alloc _)
            simp [execOp, Act.eval, g28, this, Sem.run_bind, Sem.run_pure, Result.andThen_ok]
        · intro b w2 hX2 hd hz he' hf
          have e16 : b.tmps.getD 16 undef = .slice C acc.length ccap := hf 0 _ 16 (by omega) rfl rfl
          have e17 : b.tmps.getD 17 undef = .slice (some ⟨b0, o0, none⟩) l.length cap := hf 1 _ 17 (by omega) rfl rfl
          have e18 : b.tmps.getD 18 undef = .int .i64 k := hf 2 _ 18 (by omega) rfl rfl
          have e19 : b.tmps.getD 19 undef = .pointer (some ⟨b0, o0 + k * 2, none⟩) := hf 3 _ 19 (by omega) rfl rfl
          have e20 : b.tmps.getD 20 undef = .pointer (some ⟨b0, o0 + k * 2, none⟩) := hf 4 _ 20 (by omega) rfl rfl
          have e21 : b.tmps.getD 21 undef = .int .i64 xp := hf 5 _ 21 (by omega) rfl rfl
          have e22 : b.tmps.getD 22 undef = .slice (some ⟨b0, o0, none⟩) l.length cap := hf 6 _ 22 (by omega) rfl rfl
          have e23 : b.tmps.getD 23 undef = .int .i64 k := hf 7 _ 23 (by omega) rfl rfl
          have e24 : b.tmps.getD 24 undef = .pointer (some ⟨b0, o0 + k * 2, none⟩) := hf 8 _ 24 (by omega) rfl rfl
          have e25 : b.tmps.getD 25 undef = .pointer (some ⟨b0, o0 + k * 2 + 1, none⟩) := hf 9 _ 25 (by omega) rfl rfl
          have e26 : b.tmps.getD 26 undef = .int .i64 xn := hf 10 _ 26 (by omega) rfl rfl
          have e27 : b.tmps.getD 27 undef = .int .i64 (-xn) := hf 11 _ 27 (by omega) rfl rfl
          have e28 : b.tmps.getD 28 undef = jm (xp, -xn) := hf 12 _ 28 (by omega) rfl rfl
          have f9 : Jw w2 [] (b.tmps.getD 29 undef) [(xp, -xn)] := hf 13 _ 29 (by omega) rfl rfl
          have e := frame_puts hd hz he'
          obtain ⟨X, hXx⟩ : ∃ X : Nat → Value, ∀ d, b.tmps.getD d undef = X d := ⟨_, fun _ => rfl⟩
          rw [hXx] at e16 e17 e18 e19 e20 e21 e22 e23 e24 e25 e26 e27 e28 f9
          obtain ⟨A9, c9, e99, -, -, -⟩ := jw_form f9
          rw [show dstsOf _ = [16, 17, 18, 19, 20, 21, 22, 23, 24, 25, 26, 27, 28, 29] from rfl] at e
          simp only [List.foldl_cons, List.foldl_nil, hXx, Act.put, List.setIfInBounds_toArray, List.set_cons_succ, List.set_cons_zero] at e
          rw [e16, e17, e18, e19, e20, e21, e22, e23, e24, e25, e26, e27, e28, e99] at e
          rw [e99] at f9
          replace f9 := hide f9
          clear hf he' hz hd hXx e16 e17 e18 e19 e20 e21 e22 e23 e24 e25 e26 e27 e28 e99
          subst e
          have hzw := hX2.size
          simp only [List.drop_succ_cons, List.drop_zero]
          go_wp2_with (at_builtin; (refine wpl_app tJmp rfl (.tmp 16) (.tmp 29) rfl rfl (own_ext ho.out hX2) rfl (src_sl Tryz.underlying46 f9.out (ps_one _) (by omega)) (by unfold maxLen; simp only [List.length_singleton]; omega) (by simp only [List.length_singleton]; omega) (by omega) ?_; intro v8 w8 ho8 hg8 _; have hX8 := hide (ext_grown (hX.trans hX2) hg8 (fun q hq => (ho.out.lt q hq).1))))
          go_roundg (l.length - (k + 1))
          case measure => omega
          case rel => exact ⟨k + 1, acc ++ [(xp, -xn)], by go_num, by omega, own_appJ ho8, by rw [List.length_append, List.length_singleton]; omega, hnx.out.symm, hX8.out⟩
      · have hk' : k = l.length := by omega
        have hge : (l.length : Int) ≤ k := by omega
        have hR2 : Hid (R = acc) := by show _ = _; have := hacc.out; rw [hk', List.take_length] at this; rw [hR.out]; exact this.symm
        replace hk' := hide hk'
        clear hacc hR
        obtain ⟨C, ccap, rfl⟩ := own_form ho
        replace ho := hide ho
        go_wp2_with fail
        go_returns
        rw [hR2.out]
        exact ⟨_, rfl, ho.out, hX⟩
end Go.Proofs.YtobmjcehgpmfgaaGreat
