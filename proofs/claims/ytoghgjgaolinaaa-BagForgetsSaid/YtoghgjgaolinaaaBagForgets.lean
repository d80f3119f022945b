/-
  Layer 12 (bag), 12.4: for every two lists of edges, and tick: a bag that forgot what is ahead of it, and one that did not, changed alike, have the same rows from there on. No condition.
-/
import Derived.Test.YtoghgjgaolinaaaBagO
import Derived.Test.YtoghgjgaolinaaaArgI
import Derived.Test.YtoghgjgaolinaaaEdgK
import Derived.Test.YtoghgjgaolinaaaEdgO
import Derived.Test.YtoghgjgaolinaaaStepR
import Derived.Test.YtoghgjgaolinaaaEdgEn
import Derived.WalkKit
import Derived.ProofKit
import Derived.OpenShut
import Derived.ShutString
import Derived.ChangeOld
import Derived.Below
import Derived.Lib.SmallJoins
import Derived.SizedLaws
import Derived.Deep.CondSized
import Derived.JoinedCond
set_option linter.unusedVariables false
set_option linter.unusedSimpArgs false
namespace Go.Proofs.Ytoghgjgaolinaaa
open Go.RowKit
theorem reR_may {f : List Jp} {t : Int} (h : reE f t = 0) : mayJ f = true ∧ mayJ (reR f t) = true := by
  obtain ⟨h1, h2⟩ := reE_zero.1 h
  unfold reR
  rw [if_pos h]
  exact ⟨h1, h2⟩
theorem atV_jv {f : List Jp} (h : mayJ f = true) (p : Int) : atV f p = jv f p := by unfold atV; rw [h]; rfl
theorem jv_below {f : List Jp} (h : mayJ f = true) {p : Int} (hp : p < -1) : jv f p = 0 := jv_low fun j hj => by have := (mayJ_at h j hj).1; omega
theorem jv_ahead {g : List Jp} {t p : Int} (hg : ∀ j ∈ g, t ≤ j.1) (hp : p < t) : jv g p = 0 := jv_low fun j hj => by have := hg j hj; omega
/-- Forgotten, and then added to at later places: as if it had been added first. -/
theorem re_sum {f g : List Jp} {t : Int} (h0 : 0 ≤ t) (ht : t < 1125899906842624) (hf : reE f t = 0) (hg : mayJ g = true) (hgt : ∀ j ∈ g, t ≤ j.1) (h1 : twE addO f g = 0) (h2 : twE addO (reR f t) g = 0) (h3 : reE (twR addO f g) t = 0) : reR (twR addO f g) t = twR addO (reR f t) g := by
  obtain ⟨hfm, hFm⟩ := reR_may hf
  obtain ⟨hAm, hRm⟩ := reR_may h3
  have hBm : mayJ (twR addO (reR f t) g) = true := by rw [twR_ok h2]; exact (twE_zero.1 h2).2.2
  have e1 := fun p => tw_point (op := addO) rfl h1 p
  have e2 := fun p => tw_point (op := addO) rfl h2 p
  refine one_form (mayJ_canon hRm) (mayJ_canon hBm) (fun j hj => (mayJ_at hRm j hj).2) (fun j hj => (mayJ_at hBm j hj).2) fun p hp => ?_
  rw [← atV_jv hRm, ← atV_jv hBm, e2]
  by_cases hp1 : p < -1
  · rw [atV_jv hRm, atV_jv hFm, atV_jv hg, jv_below hRm hp1, jv_below hFm hp1, jv_below hg hp1]; rfl
  by_cases hpt : p < t
  · rw [re_left h3 hpt (by omega) ht, re_left hf hpt (by omega) ht, e1, atV_jv hg, atV_jv hg, jv_ahead hgt hpt, jv_ahead hgt (show t - 1 < t by omega)]
  · rw [re_right h3 (by omega) h0 ht, re_right hf (by omega) h0 ht, e1]
theorem jv_stay {f : List Jp} {p : Int} (h : ∀ j ∈ f, j.1 ≠ p) : jv f p = jv f (p - 1) := by
  induction f with
  | nil => rfl
  | cons a r ih =>
    rw [jv, jv, ih (fun j hj => h j (List.mem_cons_of_mem _ hj))]
    have := h a (by simp)
    congr 1
    by_cases h1 : a.1 ≤ p
    · rw [if_pos h1, if_pos (by omega)]
    · rw [if_neg h1, if_neg (by omega)]
theorem leF_iff (f : List Jp) : ∀ (g : List Jp) (m : Int), 0 ≤ leF f m g ↔ 0 ≤ m ∧ ∀ j ∈ g, 0 ≤ jv f j.1
  | [], m => by simp [leF]
  | a :: g, m => by
    have ih := leF_iff f g (min m (jv f a.1))
    have e : leF f m (a :: g) = leF f (min m (jv f a.1)) g := by simp [leF]
    rw [e, ih]
    constructor
    · rintro ⟨h1, h2⟩
      refine ⟨by omega, fun j hj => ?_⟩
      rcases List.mem_cons.1 hj with rfl | hj
      · omega
      · exact h2 j hj
    · rintro ⟨h1, h2⟩
      exact ⟨by have := h2 a (by simp); omega, fun j hj => h2 j (List.mem_cons_of_mem _ hj)⟩
/-- Nowhere below none. -/
theorem le_iff {f : List Jp} (h : mayJ f = true) : 0 ≤ leV f ↔ ∀ p, -1 ≤ p → 0 ≤ jv f p := by
  unfold leV
  rw [if_pos h, leF_iff]
  constructor
  · rintro ⟨h1, h2⟩
    have key : ∀ n : Nat, 0 ≤ jv f ((n : Int) - 1) := by
      intro n
      induction n with
      | zero => exact h1
      | succ n ih =>
        by_cases hj : ∃ j ∈ f, j.1 = ((n + 1 : Nat) : Int) - 1
        · obtain ⟨j, hj, e⟩ := hj
          rw [← e]; exact h2 j hj
        · rw [jv_stay (fun j hj' e => hj ⟨j, hj', e⟩)]
          have : ((n + 1 : Nat) : Int) - 1 - 1 = (n : Int) - 1 := by omega
          rw [this]; exact ih
    intro p hp
    have := key (p + 1).toNat
    rwa [show (((p + 1).toNat : Nat) : Int) - 1 = p by omega] at this
  · intro k
    exact ⟨k _ (Int.le_refl _), fun j hj => k _ (mayJ_at h j hj).1⟩
theorem le_re {f : List Jp} {t : Int} (h0 : 0 ≤ t) (ht : t < 1125899906842624) (hf : reE f t = 0) (hl : 0 ≤ leV f) : 0 ≤ leV (reR f t) := by
  obtain ⟨hfm, hFm⟩ := reR_may hf
  rw [le_iff hFm]
  rw [le_iff hfm] at hl
  intro p hp
  rw [← atV_jv hFm]
  by_cases hpt : p < t
  · rw [re_left hf hpt hp ht, atV_jv hfm]; exact hl _ (by omega)
  · rw [re_right hf (by omega) h0 ht, atV_jv hfm]; exact hl p hp
/-- Whether a sum falls below none does not hang on what was forgotten. -/
theorem le_sum {f g : List Jp} {t : Int} (h0 : 0 ≤ t) (ht : t < 1125899906842624) (hf : reE f t = 0) (hg : mayJ g = true) (hgt : ∀ j ∈ g, t ≤ j.1) (h1 : twE addO f g = 0) (h2 : twE addO (reR f t) g = 0) (hl : 0 ≤ leV f) : 0 ≤ leV (twR addO (reR f t) g) ↔ 0 ≤ leV (twR addO f g) := by
  obtain ⟨hfm, hFm⟩ := reR_may hf
  have hAm : mayJ (twR addO f g) = true := by rw [twR_ok h1]; exact (twE_zero.1 h1).2.2
  have hBm : mayJ (twR addO (reR f t) g) = true := by rw [twR_ok h2]; exact (twE_zero.1 h2).2.2
  have e1 := fun p => tw_point (op := addO) rfl h1 p
  have e2 := fun p => tw_point (op := addO) rfl h2 p
  rw [le_iff hBm, le_iff hAm]
  rw [le_iff hfm] at hl
  constructor
  · intro k p hp
    rw [← atV_jv hAm, e1, atV_jv hfm, atV_jv hg]
    by_cases hpt : p < t
    · rw [jv_ahead hgt hpt]; have := hl p hp; unfold addO; omega
    · have := k p hp
      rw [← atV_jv hBm, e2, re_right hf (by omega) h0 ht, atV_jv hfm, atV_jv hg] at this
      exact this
  · intro k p hp
    rw [← atV_jv hBm, e2, atV_jv hg]
    by_cases hpt : p < t
    · rw [jv_ahead hgt hpt, re_left hf hpt hp ht, atV_jv hfm]; have := hl (t - 1) (by omega); unfold addO; omega
    · have := k p hp
      rw [← atV_jv hAm, e1, atV_jv hfm, atV_jv hg] at this
      rw [re_right hf (by omega) h0 ht, atV_jv hfm]
      exact this
theorem reC_len (f : List Jp) (t : Int) : (reC f t).length ≤ f.length := by
  have e := congrArg List.length (cut_eq f t)
  rw [List.length_append] at e
  unfold reC
  split
  · rename_i h
    have : cutL f t ≠ [] := fun h' => h (by rw [h']; rfl)
    have := List.length_pos_iff.2 this
    rw [List.length_cons]; omega
  · omega
theorem reR_len {f : List Jp} {t : Int} (ht : t < 1125899906842624) (hf : reE f t = 0) : (reR f t).length ≤ f.length := by
  unfold reR
  rw [if_pos hf, ← rest_code (reE_zero.1 hf).1 t ht]
  exact reC_len f t
end Go.Proofs.Ytoghgjgaolinaaa
set_option linter.unusedVariables false
set_option linter.unusedSimpArgs false
set_option linter.unusedSectionVars false
namespace Go.Proofs.Ytoghgjgaolinaaa
open Go.RowKit
/-- What is from a tick on, row by row. -/
def foX (X : List Ed) (t : Int) : List Ed := evL (reOp t) (byRows X)
theorem reR_nil {t : Int} (ht : t < 1125899906842624) : reE [] t = 0 ∧ reR [] t = [] := by
  have h1 : mayJ [] = true := by decide
  have h2 : reL [] t = [] := by rw [← rest_code h1 t ht]; simp [reC, cutL, cutR, js]
  have h3 : reE [] t = 0 := reE_zero.2 ⟨h1, by rw [h2]; exact h1⟩
  exact ⟨h3, by unfold reR; rw [if_pos h3, h2]⟩
theorem sum_leI {α : Type} (f g : α → Int) : ∀ (l : List α), (∀ x ∈ l, f x ≤ g x) → (l.map f).sum ≤ (l.map g).sum
  | [], _ => by simp
  | a :: l, h => by
    have := sum_leI f g l (fun x hx => h x (List.mem_cons_of_mem _ hx))
    have := h a (by simp)
    rw [List.map_cons, List.map_cons, List.sum_cons, List.sum_cons]; omega
section
variable {X : List Ed} {t : Int} (hX : mayE X = true) (ht : t < 1125899906842624) (h : ∀ r, reE (jmps X r) t = 0)
include hX ht h
theorem fo_row (r : List Vl) : jmps (foX X t) r = reR (jmps X r) t := jmps_each (op := reOp t) (reR_nil ht).2 (mayE_rise hX).1 r
theorem fo_may : mayE (foX X t) = true := by
  refine may_each (op := reOp t) (reR_nil ht).2 (mayE_rise hX).1 ?_ fun r => (reR_may (h r)).2
  have h1 := ev_lenI (reOp t) X
  have h2 := len_rowsI hX
  have h3 := sum_leI (fun r => (((reOp t) (jmps X r)).2.length : Int)) (fun r => ((jmps X r).length : Int)) (rowsL X) (fun r _ => by
    have := reR_len ht (h r)
    show ((reR (jmps X r) t).length : Int) ≤ _
    omega)
  have h4 := mayE_len hX
  omega
theorem fo_tab (h0 : 0 ≤ t) (hT : tabE X = true) : tabE (foX X t) = true := by
  rw [tabE_rows (fo_may hX ht h), List.all_eq_true]
  intro r _
  rw [decide_eq_true_iff, fo_row hX ht h]
  refine le_re h0 ht (h r) ?_
  by_cases hr : r ∈ rowsL X
  · rw [tabE_rows hX] at hT
    have := List.all_eq_true.1 hT r hr
    rwa [decide_eq_true_iff] at this
  · rw [row_none hX hr]; decide
theorem fo_in (hi : edsIn X) : edsIn (foX X t) := by
  intro e he x hx
  have hr : e.1 ∈ rowsL (foX X t) := ((rowsL_ok (mayE_rise (fo_may hX ht h)).1).2 _).2 ⟨e, he, rfl⟩
  rw [mem_rows (mayE_rise (fo_may hX ht h)).1, fo_row hX ht h] at hr
  refine (rows_ok hX hi ((mem_rows (mayE_rise hX).1 _).2 fun hz => ?_)).2 x hx
  rw [hz, (reR_nil ht).2] at hr
  exact hr rfl
theorem fo_upd {T U : List Fe} (h0 : 0 ≤ t) (hx : BagX T X) (hU : (U.map (·.2.2)).Perm (T.map fun p => restG t p.2.2)) : BagX (updT rowB T U) (foX X t) := by
  refine ⟨fo_tab hX ht h h0 hx.1, ?_, fo_in hX ht h hx.2.2⟩
  have hUg : (U.map (·.2.2)).Perm ((grp X).map (restG t)) := by
    refine hU.trans ?_
    have e : (T.map fun p => restG t p.2.2) = (T.map (·.2.2)).map (restG t) := by rw [List.map_map]; rfl
    rw [e]
    exact hx.2.1.map _
  have hnone : (T.filter fun q => !U.any fun p => (fent rowB q).1.sameKey (fent rowB p).1) = [] := by
    rw [List.filter_eq_nil_iff]
    intro p hp
    have hm : restG t p.2.2 ∈ U.map (·.2.2) := hU.mem_iff.2 (List.mem_map.2 ⟨p, hp, rfl⟩)
    obtain ⟨u, hu, e⟩ := List.mem_map.1 hm
    have hr : u.2.2.1 = p.2.2.1 := by rw [e]; rfl
    have : (U.any fun q => (fent rowB p).1.sameKey (fent rowB q).1) = true := List.any_eq_true.2 ⟨u, hu, by rw [same_ent, hr]; simp⟩
    rw [this]; decide
  have hUn : (U.map (·.2.2.1)).Nodup := by
    have e : U.map (·.2.2.1) = (U.map (·.2.2)).map Prod.fst := by rw [List.map_map]; rfl
    rw [e]
    refine ((hUg.map Prod.fst).nodup_iff).2 ?_
    rw [List.map_map]
    exact grp_nodup hX
  unfold updT
  rw [hnone, List.nil_append]
  refine (List.perm_ext_iff_of_nodup ?_ ?_).2 fun g => ?_
  · refine nodup_of_map Prod.fst ?_
    rw [List.map_map]
    exact (List.filter_sublist.map _).nodup hUn
  · exact nodup_of_map Prod.fst (grp_nodup (fo_may hX ht h))
  · rw [grp_iff (fo_may hX ht h), fo_row hX ht h, List.mem_map]
    constructor
    · rintro ⟨u, hu, rfl⟩
      obtain ⟨hu1, hu2⟩ := List.mem_filter.1 hu
      obtain ⟨x, hx1, e⟩ := List.mem_map.1 (hUg.mem_iff.1 (List.mem_map.2 ⟨u, hu1, rfl⟩))
      have hxe := ((grp_iff hX x).1 hx1).1
      rw [← e]
      refine ⟨by show reR x.2 t = reR (jmps X x.1) t; rw [← hxe], fun hz => ?_⟩
      have : u.2.2.2 = [] := by rw [← e]; exact hz
      rw [this] at hu2
      cases hu2
    · rintro ⟨h1, h2⟩
      have hne : jmps X g.1 ≠ [] := fun hz => h2 (by rw [h1, hz, (reR_nil ht).2])
      have hg : (g.1, jmps X g.1) ∈ grp X := (grp_iff hX _).2 ⟨rfl, hne⟩
      obtain ⟨u, hu, e⟩ := List.mem_map.1 (hUg.mem_iff.2 (List.mem_map.2 ⟨_, hg, rfl⟩))
      have e2 : u.2.2 = g := by rw [e]; exact Prod.ext rfl h1.symm
      refine ⟨u, List.mem_filter.2 ⟨hu, ?_⟩, e2⟩
      rw [e2]
      cases hg2 : g.2 with
      | nil => exact absurd hg2 h2
      | cons _ _ => rfl
end
theorem re_two {f : List Jp} {t : Int} (hf : mayJ f = true) (h : reE f t ≠ 0) : reE f t = 7 := by
  unfold reE at h ⊢
  rw [hf] at h ⊢
  simp only [if_true] at h ⊢
  unfold full at h ⊢
  split at h
  · exact absurd rfl h
  · rename_i hh; rw [if_neg hh]
/-- A bag that forgets. -/
theorem bagForget_x (B mb n : Nat) (mk t : Int) (T : List Fe) (X : List Ed) (w : World) (h : Bg rowB w [B, mb] B mb n mk T) (hx : BagX T X) (hBm : B ≠ mb) (hn : n ≤ 900000000) (hmk : mk < t) (h0 : 0 ≤ t) (ht : t < 1125899906842624) : Calls Try.prog 9 #[.pointer (some ⟨B, 0, none⟩), .int .i64 t] w fun e w' =>
    ((∃ r, reE (jmps X r) t ≠ 0) ∧ e = .returned (.int .i64 7) ∧ Ext w w') ∨
    ((∀ r, reE (jmps X r) t = 0) ∧ e = .returned (.int .i64 0) ∧ ∃ T' n', Bg rowB w' [B, mb] B mb n' t T' ∧ n' ≤ n + 4096 ∧ BagX T' (foX X t) ∧ Fr [B, mb] w w') := by
  have hml := h.2.1.lt
  have hbl := h.1.lt
  have hTl : T.length ≤ 4096 := by
    have k := hx.2.1.length_eq
    rw [List.length_map] at k
    have k2 := grp_len2 X
    have k3 := mayE_len hx.may
    omega
  refine (bagForget_c rowB [B, mb] B mb n mk t T (by omega) w h hBm (by intro x hx'; simp only [List.mem_cons, List.not_mem_nil, or_false] at hx'; omega) ⟨by simp, by simp⟩).mono ?_
  rintro e w' ⟨-, h2⟩
  rcases h2 hmk with ⟨p, hp, hp0, rfl, hX⟩ | ⟨hz, rfl, U, hU, hUr, hM, hO, hF⟩
  · have hg := (grp_iff hx.may _).1 (hx.mem hp)
    have hj : mayJ p.2.2.2 = true := (mayE_iff.1 hx.may).2.2 _ (hx.mem hp)
    refine .inl ⟨⟨p.2.2.1, by rw [← hg.1]; exact hp0⟩, by rw [re_two hj hp0], hX⟩
  · have hall : ∀ r, reE (jmps X r) t = 0 := fun r => by
      by_cases hj : jmps X r = []
      · rw [hj]; exact (reR_nil ht).1
      · obtain ⟨p, hp, e⟩ := List.mem_map.1 (hx.2.1.mem_iff.2 ((grp_iff hx.may (r, jmps X r)).2 ⟨rfl, hj⟩))
        have := hz p hp
        rw [e] at this
        exact this
    have hUl := hU.length_eq
    rw [List.length_map, List.length_map] at hUl
    refine .inr ⟨hall, rfl, _, _, ⟨hO, hM, fun p hp => ?_⟩, by omega, fo_upd hx.may ht hall h0 hx hU, hF⟩
    unfold updT at hp
    rcases List.mem_append.1 hp with hp | hp
    · have hsub : ∀ y, y ∈ [B, mb] → y ∈ [B, mb] := fun y hy => hy
      have := h.2.2 p (List.mem_filter.1 hp).1
      exact ⟨Sl.fr this.1 hF hsub, Sl.fr this.2 hF hsub⟩
    · exact hUr p (List.mem_filter.1 hp).1
end Go.Proofs.Ytoghgjgaolinaaa
set_option linter.unusedVariables false
set_option linter.unusedSimpArgs false
namespace Go.Proofs.Ytoghgjgaolinaaa
open Go.RowKit
theorem row_zero {X l : List Ed} (hX : mayE X = true) (hl : mayE l = true) (h : neE (X ++ l) = 0) (r : List Vl) : twE addO (jmps X r) (jmps l r) = 0 := by
  obtain ⟨q1, q2, q3⟩ := ne_zero h
  obtain ⟨q4, -, -⟩ := each_zero q2
  have k := op_rows (op := nmOp) (by rw [nmOp_nil]) (up_val hX hl) q4 r
  rw [jmps_append, nm_two (mayJ_rows hX r) (mayJ_rows hl r)] at k
  exact k
theorem row_new {X l : List Ed} (hX : mayE X = true) (hl : mayE l = true) (h : neE (X ++ l) = 0) (r : List Vl) : jmps (neR (X ++ l)) r = twR addO (jmps X r) (jmps l r) := by
  rw [up_fn hX hl h, jmps_append, nm_two (mayJ_rows hX r) (mayJ_rows hl r)]
theorem row_late {l : List Ed} {t : Int} (h : l.all (fun e => !ltP t e.2) = true) (r : List Vl) : ∀ j ∈ jmps l r, t ≤ j.1 := by
  intro j hj
  unfold jmps at hj
  obtain ⟨e, he, rfl⟩ := List.mem_map.1 hj
  have := List.all_eq_true.1 h e (List.mem_filter.1 he).1
  unfold ltP at this
  rw [Bool.not_eq_true', decide_eq_false_iff_not] at this
  omega
theorem le_row {X : List Ed} (hX : tabE X = true) (r : List Vl) : 0 ≤ leV (jmps X r) := by
  have hm : mayE X = true := by have := hX; unfold tabE at this; exact (Bool.and_eq_true_iff.1 this).1
  by_cases hr : r ∈ rowsL X
  · rw [tabE_rows hm] at hX
    have := List.all_eq_true.1 hX r hr
    rwa [decide_eq_true_iff] at this
  · rw [row_none hm hr]; decide
section
variable {X l : List Ed} {t : Int} (hX : tabE X = true) (h0 : 0 ≤ t) (ht : t < 1125899906842624) (hre : ∀ r, reE (jmps X r) t = 0) (hl : mayE l = true) (hla : l.all (fun e => !ltP t e.2) = true)
include hX h0 ht hre hl hla
theorem fo_same (h1 : neE (X ++ l) = 0) (h2 : neE (foX X t ++ l) = 0) (h3 : ∀ r, reE (jmps (neR (X ++ l)) r) t = 0) : foX (neR (X ++ l)) t = neR (foX X t ++ l) := by
  have hm : mayE X = true := by have := hX; unfold tabE at this; exact (Bool.and_eq_true_iff.1 this).1
  have hY := fo_may hm ht hre
  refine ed_ext (mayE_rise (fo_may (ne_may h1) ht h3)) (mayE_rise (ne_may h2)) fun r => ?_
  have k3 := h3 r
  rw [row_new hm hl h1] at k3
  have z2 := row_zero hY hl h2 r
  rw [fo_row hm ht hre] at z2
  rw [fo_row (ne_may h1) ht h3, row_new hm hl h1, row_new hY hl h2, fo_row hm ht hre]
  exact re_sum h0 ht (hre r) (mayJ_rows hl r) (row_late hla r) (row_zero hm hl h1 r) z2 k3
theorem fo_tabs (h1 : neE (X ++ l) = 0) (h2 : neE (foX X t ++ l) = 0) : tabE (neR (foX X t ++ l)) = tabE (neR (X ++ l)) := by
  have hm : mayE X = true := by have := hX; unfold tabE at this; exact (Bool.and_eq_true_iff.1 this).1
  have hY := fo_may hm ht hre
  have key : ∀ r, 0 ≤ leV (jmps (neR (foX X t ++ l)) r) ↔ 0 ≤ leV (jmps (neR (X ++ l)) r) := fun r => by
    have z2 := row_zero hY hl h2 r
    rw [fo_row hm ht hre] at z2
    rw [row_new hm hl h1, row_new hY hl h2, fo_row hm ht hre]
    exact le_sum h0 ht (hre r) (mayJ_rows hl r) (row_late hla r) (row_zero hm hl h1 r) z2 (le_row hX r)
  rw [tabE_rows (ne_may h1), tabE_rows (ne_may h2), Bool.eq_iff_iff, List.all_eq_true, List.all_eq_true]
  constructor
  · intro h r hr
    rw [decide_eq_true_iff]
    refine (key r).1 ?_
    by_cases hin : r ∈ rowsL (neR (foX X t ++ l))
    · have := h r hin; rwa [decide_eq_true_iff] at this
    · rw [row_none (ne_may h2) hin]; decide
  · intro h r hr
    rw [decide_eq_true_iff]
    refine (key r).2 ?_
    by_cases hin : r ∈ rowsL (neR (X ++ l))
    · have := h r hin; rwa [decide_eq_true_iff] at this
    · rw [row_none (ne_may h1) hin]; decide
end
/-- What is answered: alike, or one has no room, or what comes is late for the one that forgot. -/
theorem fo_err {X l : List Ed} {t : Int} (hX : tabE X = true) (h0 : 0 ≤ t) (ht : t < 1125899906842624) (hre : ∀ r, reE (jmps X r) t = 0) : baE (foX X t) t l = 16 ∨ baE (foX X t) t l = baE X (-1) l ∨ baE X (-1) l = 7 ∨ baE (foX X t) t l = 7 := by
  unfold baE
  by_cases hl : mayE l = true
  · rw [if_pos hl, if_pos hl]
    by_cases hla : l.all (fun e => !ltP t e.2) = true
    · have hlb : l.all (fun e => !ltP (-1) e.2) = true := List.all_eq_true.2 fun e he => by
        have := List.all_eq_true.1 hla e he
        unfold ltP at this ⊢
        rw [Bool.not_eq_true', decide_eq_false_iff_not] at this ⊢
        omega
      rw [if_pos hla, if_pos hlb]
      by_cases h1 : neE (X ++ l) = 0
      · by_cases h2 : neE (foX X t ++ l) = 0
        · rw [if_pos h1, if_pos h2, fo_tabs hX h0 ht hre hl hla h1 h2]
          exact .inr (.inl rfl)
        · rw [if_neg h2]; exact .inr (.inr (.inr rfl))
      · rw [if_neg h1]; exact .inr (.inr (.inl rfl))
    · rw [if_neg hla]; exact .inl rfl
  · rw [if_neg hl, if_neg hl]; exact .inr (.inl rfl)
theorem baE_zero {X l : List Ed} {mk : Int} (h : baE X mk l = 0) : mayE l = true ∧ l.all (fun e => !ltP mk e.2) = true ∧ neE (X ++ l) = 0 := by
  unfold baE at h
  split at h
  · rename_i hl
    split at h
    · rename_i hla
      split at h
      · rename_i h0; exact ⟨hl, hla, h0⟩
      · cases h
    · cases h
  · cases h
end Go.Proofs.Ytoghgjgaolinaaa
set_option linter.unusedVariables false
set_option linter.unusedSimpArgs false
namespace Go.Proofs.Ytoghgjgaolinaaa.bagForgets
open Go.ChangeShapes Go.WideShapes Go.ChangeAt Go.RowKit Go.Joins
open Go.ChangeMaps (open_string shut_string)
attribute [local go_sem] GW.cell GW.frozen In.eq_true In.le_true In.ne In.ne' In.ne_add In.ne_add' In.lt_add Upto.le_true Upto.le_add Upto.lt_add

theorem er_ew2 {w : World} {base : Nat} {S : List Nat} {v : Value} {L : List Ve} (h : OwnEr w base v L) (hs : ∀ b, b ∈ S → b < base) : Ew w S v L :=
  ⟨Sl.own h.1 hs, fun p hp => Sl.less (h.2 p hp) fun k hk => List.mem_append_right _ (List.mem_range.2 (hs k hk))⟩
theorem sl_bag {w : World} {S : List Nat} {sz n C : Nat} {v : Value} {xs : List Value} {mk : Int} {mc : Nat} (h : Sl w S sz v n xs) (hx : xs = [] ∨ ∃ i j r, xs = .int .i64 i :: .int .i64 j :: r) (hC : Ob w C 68 [.int .i64 mk, .map (some mc)]) : Sl w (C :: S) sz v n xs := by
  obtain ⟨A, cap, rfl, h1, h2, h3, h4⟩ := h
  refine ⟨A, cap, rfl, h1, h2, h3, ?_⟩
  rcases h4 with h4 | ⟨c, p, e, hcS, hc⟩
  · exact .inl h4
  · rcases hx with rfl | ⟨i, j, r, rfl⟩
    · exact .inl rfl
    · refine .inr ⟨c, p, e, fun m => ?_, hc⟩
      rcases List.mem_cons.1 m with m | m
      · subst m
        have q := hc 1 (.int .i64 j) rfl
        unfold Ob at hC
        rcases p with _ | p
        · simp [World.cell?, hC] at q
        · simp [World.cell?, hC] at q
      · exact hcS m
theorem rc_ints (l : List Vl) : rc l = [] ∨ ∃ i j r, rc l = .int .i64 i :: .int .i64 j :: r := by
  cases l with
  | nil => exact .inl rfl
  | cons a l => exact .inr ⟨_, _, _, rfl⟩
theorem ps_ints (l : List Jp) : ps l = [] ∨ ∃ i j r, ps l = .int .i64 i :: .int .i64 j :: r := by
  cases l with
  | nil => exact .inl rfl
  | cons a l => exact .inr ⟨_, _, _, rfl⟩
theorem mv_block {α : Type} {f : α → Lit × Value} {P : Program} {k : TypeId} {w w' : World} {b n : Nat} {M : List α} (h : Mv w P k f b n M) (hb : w'.heap[b]? = w.heap[b]?) : Mv w' P k f b n M := by
  obtain ⟨es, ⟨es', c, g1, rst⟩, h2⟩ := h
  exact ⟨es, ⟨es', c, hb.trans g1, rst⟩, h2⟩
/-- A bag is as it was where another one is changed. -/
theorem bg_other {w w' : World} {B mb n C mc : Nat} {mk mk2 : Int} {T : List Fe} (h : Bg rowB w [B, mb] B mb n mk T) (hC : Ob w C 68 [.int .i64 mk2, .map (some mc)]) (hm : ∃ es c, w.heap[mc]? = some (.map es c)) (hF : Fr [C, mc] w w') (h1 : B ≠ C) (h2 : B ≠ mc) (h3 : mb ≠ C) (h4 : mb ≠ mc) : Bg rowB w' [B, mb] B mb n mk T := by
  have hml := h.2.1.lt
  refine ⟨h.1.fr hF (by simp only [List.mem_cons, List.not_mem_nil, or_false]; omega), mv_block h.2.1 (hF.block mb hml (by simp only [List.mem_cons, List.not_mem_nil, or_false]; omega)), fun p hp => ?_⟩
  obtain ⟨k1, k2⟩ := h.2.2 p hp
  have j1 := sl_bag (sl_map k1 hm) (rc_ints _) hC
  have j2 := sl_bag (sl_map k2 hm) (ps_ints _) hC
  exact ⟨Sl.less (Sl.fr j1 hF (by intro y hy; simp only [List.mem_cons, List.not_mem_nil, or_false] at hy ⊢; omega)) (by intro y hy; simp only [List.mem_cons, List.not_mem_nil, or_false] at hy ⊢; omega), Sl.less (Sl.fr j2 hF (by intro y hy; simp only [List.mem_cons, List.not_mem_nil, or_false] at hy ⊢; omega)) (by intro y hy; simp only [List.mem_cons, List.not_mem_nil, or_false] at hy ⊢; omega)⟩
theorem fr_two {C mc : Nat} {w w' : World} (h : Fr [mc] w w') : Fr [C, mc] w w' := h.more (fun k _ hk => by simp only [List.mem_singleton] at hk; simp [hk])
set_option maxHeartbeats 8000000 in
set_option maxRecDepth 100000 in
theorem walk (a l2 : List Ve) (t : Int) (ia : edsIn (eds a)) (ib : edsIn (eds l2)) (v1 v2 : Value) (w : World) (ha : Ew w [] v1 a) (hb : Ew w [] v2 l2) : Calls Try.prog 3 #[v1, v2, .int .i64 t] w fun e w' => e = .returned (.bool true) ∧ Ext w w' := by
  have hae := hide ha
  have hbe := hide hb
  obtain ⟨VA0, acap, rfl, -, -, -⟩ := ew_form ha
  obtain ⟨VB, bcap, rfl, -, -, -⟩ := ew_form hb
  clear ha hb
  by_cases la : 2000 < a.length
  · have laI : (2000 : Int) < a.length := by omega
    go_enter Try.func3, Try.ntmps3
    go_wp2_with (go_at_call 6; first | ((with_reducible refine seq_gw' (bagLive_c _) ?_); intro g) | ((with_reducible refine seq_gw (bagLive_c _) ?_); intro g))
    go_returns
    exact ⟨by first | rfl | simp, g.grown⟩
  have laI : (a.length : Int) ≤ 2000 := by omega
  by_cases lb : 2000 < l2.length
  · have lbI : (2000 : Int) < l2.length := by omega
    go_enter Try.func3, Try.ntmps3
    go_wp2_with (go_at_call 6; first | ((with_reducible refine seq_gw' (bagLive_c _) ?_); intro g) | ((with_reducible refine seq_gw (bagLive_c _) ?_); intro g))
    go_returns
    exact ⟨by first | rfl | simp, g.grown⟩
  have lbI : (l2.length : Int) ≤ 2000 := by omega
  by_cases h0 : t < 0
  · go_enter Try.func3, Try.ntmps3
    go_wp2_with (go_at_call 6; first | ((with_reducible refine seq_gw' (bagLive_c _) ?_); intro g) | ((with_reducible refine seq_gw (bagLive_c _) ?_); intro g))
    go_returns
    exact ⟨by first | rfl | simp, g.grown⟩
  have h0' : 0 ≤ t := by omega
  by_cases ht : 1125899906842624 ≤ t
  · go_enter Try.func3, Try.ntmps3
    go_wp2_with (go_at_call 6; first | ((with_reducible refine seq_gw' (bagLive_c _) ?_); intro g) | ((with_reducible refine seq_gw (bagLive_c _) ?_); intro g))
    go_returns
    exact ⟨by first | rfl | simp, g.grown⟩
  have ht' : t < 1125899906842624 := by omega
  clear la lb
  go_enter Try.func3, Try.ntmps3
  go_wp2_with fail
  refine (bagNew_c rowB _).mono ?_
  rintro ee w1 ⟨B, mb, rfl, ⟨hB, hmb, hBm, hbg⟩, hX1⟩
  have hBl1 := hbg.1.lt
  have hml1 := hbg.2.1.lt
  go_wp2_with fail
  refine (bagNew_c rowB _).mono ?_
  rintro ee w2 ⟨C, mc, rfl, ⟨hC, hmc, hCm, hcg⟩, hX2⟩
  have hb2 : Bg rowB w2 [B, mb] B mb 0 (-1) [] := Bg.ext ⟨hbg.1, hbg.2.1, by simp⟩ hX2
  have hc2 : Bg rowB w2 [C, mc] C mc 0 (-1) [] := ⟨hcg.1, hcg.2.1, by simp⟩
  have hXw2 : Ext w w2 := hX1.trans hX2
  clear hbg hcg hX1 hX2
  go_wp2_with fail
  refine (bagAdd_c a B mb 0 (-1) [] [] _ _ (hae.out.ext hXw2) ia hb2 BagX.nil hBm (by omega)).mono ?_
  rintro ee w3 ⟨rfl, ⟨hE, hX3⟩ | ⟨hE, T1, n1, hb3, hn1, hx1, hF3⟩⟩
  · have hEI : (baE [] (-1) (eds a) != 0) = true := by simpa using hE
    have hXf := hide (hXw2.trans hX3)
    generalize baE [] (-1) (eds a) = E1 at *
    clear hb2 hc2 hXw2 hX3
    go_wp2_with (go_at_call 6; first | ((with_reducible refine seq_gw' (bagLive_c _) ?_); intro g) | ((with_reducible refine seq_gw (bagLive_c _) ?_); intro g))
    go_returns
    exact ⟨by first | rfl | simp, hXf.out.trans g.grown⟩
  rw [hE]
  have hc3 := bg_other hc2 hb2.1 hb2.2.1.isMap (fr_two hF3) (by omega) (by omega) (by omega) (by omega)
  have hXw3 : Ext w w3 := ext_fr hXw2 hF3 (by intro y hy; simp only [List.mem_singleton] at hy; omega)
  have hz3 := hF3.size
  clear hb2 hc2 hXw2 hF3
  go_wp2_with fail
  have hadd := bagAdd_c a C mc 0 (-1) [] [] _ _ (hae.out.ext hXw3) ia hc3 BagX.nil hCm (by omega)
  rw [hE] at hadd
  refine hadd.mono ?_
  clear hadd
  rintro ee w4 ⟨rfl, ⟨h, -⟩ | ⟨-, T2, n2, hc4, hn2, hx2, hF4⟩⟩
  · exact absurd rfl h
  have hb4 := bg_other hb3 hc3.1 hc3.2.1.isMap (fr_two hF4) (by omega) (by omega) (by omega) (by omega)
  have hXw4 : Ext w w4 := ext_fr hXw3 hF4 (by intro y hy; simp only [List.mem_singleton] at hy; omega)
  have hz4 := hF4.size
  generalize neR ([] ++ eds a) = X at hx1 hx2
  clear hb3 hc3 hXw3 hF4 hE
  go_wp2_with fail
  refine (bagForget_x B mb n1 (-1) t T1 X _ hb4 hx1 hBm (by omega) (by omega) h0' ht').mono ?_
  rintro ee w5 (⟨-, rfl, hX5⟩ | ⟨hre, rfl, T3, n3, hb5, hn3, hx3, hF5⟩)
  · have hXf := hide (hXw4.trans hX5)
    clear hb4 hc4 hXw4 hX5
    go_wp2_with (go_at_call 6; first | ((with_reducible refine seq_gw' (bagLive_c _) ?_); intro g) | ((with_reducible refine seq_gw (bagLive_c _) ?_); intro g))
    go_returns
    exact ⟨by first | rfl | simp, hXf.out.trans g.grown⟩
  have hc5 := bg_other hc4 hb4.1 hb4.2.1.isMap hF5 (by omega) (by omega) (by omega) (by omega)
  have hXw5 : Ext w w5 := ext_fr hXw4 hF5 (by intro y hy; simp only [List.mem_cons, List.not_mem_nil, or_false] at hy; omega)
  have hz5 := hF5.size
  have herr := fo_err hx1.1 h0' ht' hre (l := eds l2)
  clear hb4 hc4 hXw4 hF5
  go_wp2_with fail
  refine (bagAdd_c l2 B mb n3 t T3 (foX X t) _ _ (hbe.out.ext hXw5) ib hb5 hx3 hBm (by omega)).mono ?_
  rintro ee w6 ⟨rfl, hh⟩
  obtain ⟨T4, X4, n4, hb6, hx4, hn4, hF6, hX4⟩ : ∃ T4 X4 n4, Bg rowB w6 [B, mb] B mb n4 t T4 ∧ BagX T4 X4 ∧ n4 ≤ 100000 ∧ Fr [mb] w5 w6 ∧ (baE (foX X t) t (eds l2) = 0 → X4 = neR (foX X t ++ eds l2)) := by
    rcases hh with ⟨hne, hX⟩ | ⟨-, T', n', k1, k2, k3, k4⟩
    · exact ⟨T3, _, n3, hb5.ext hX, hx3, by omega, Fr.of_ext hX, fun h => absurd h hne⟩
    · exact ⟨T', _, n', k1, k3, by omega, k4, fun _ => rfl⟩
  have hc6 := bg_other hc5 hb5.1 hb5.2.1.isMap (fr_two hF6) (by omega) (by omega) (by omega) (by omega)
  have hXw6 : Ext w w6 := ext_fr hXw5 hF6 (by intro y hy; simp only [List.mem_singleton] at hy; omega)
  have hz6 := hF6.size
  have hbz := hide (fun h => baE_zero (X := foX X t) (l := eds l2) (mk := t) h)
  obtain ⟨Eb, hEb⟩ : ∃ Eb, Eb = baE (foX X t) t (eds l2) := ⟨_, rfl⟩
  rw [← hEb] at hX4 herr hbz ⊢
  replace hEb := hide hEb
  clear hb5 hc5 hXw5 hF6 hh hx3
  by_cases h16 : Eb = 16
  · subst h16
    have hb6' := hide hb6
    have hXf := hide hXw6
    clear herr hX4 hbz hb6 hc6 hXw6
    go_wp2_with (first | (go_at_call 6; first | ((with_reducible refine seq_gw' (bagLive_c _) ?_); intro g) | ((with_reducible refine seq_gw (bagLive_c _) ?_); intro g)) | (go_at_call 10; (with_reducible refine seq_gw' (bagMark_c rowB _ _ _ _ _ _ _ (hb6'.out.ext g.grown)) ?_); intro g2))
    go_returns
    exact ⟨by first | rfl | simp, hXf.out.trans g2.grown⟩
  have h16I : (Eb == 16) = false := by rw [beq_eq_false_iff_ne]; exact h16
  replace herr := herr.resolve_left h16
  go_wp2_with fail
  refine (bagAdd_c l2 C mc n2 (-1) T2 X _ _ (hbe.out.ext hXw6) ib hc6 hx2 hCm (by omega)).mono ?_
  rintro ee w7 ⟨rfl, hh⟩
  obtain ⟨Ec, hEc⟩ : ∃ Ec, Ec = baE X (-1) (eds l2) := ⟨_, rfl⟩
  rw [← hEc] at herr hh ⊢
  by_cases hz : Eb = 0 ∧ Ec = 0
  · obtain ⟨rfl, rfl⟩ := hz
    rcases hh with ⟨h, -⟩ | ⟨-, T5, n5, hc7, hn5, hx5, hF7⟩
    · exact absurd rfl h
    have hb7 := bg_other hb6 hc6.1 hc6.2.1.isMap (fr_two hF7) (by omega) (by omega) (by omega) (by omega)
    have hXw7 : Ext w w7 := ext_fr hXw6 hF7 (by intro y hy; simp only [List.mem_singleton] at hy; omega)
    have hz7 := hF7.size
    obtain rfl := hX4 rfl
    obtain ⟨hlm, hla, hn2'⟩ := hbz.out rfl
    obtain ⟨-, -, hn1'⟩ := baE_zero hEc.symm
    have hsame := hide (fun h3 => fo_same hx1.1 h0' ht' hre hlm hla hn1' hn2' h3)
    clear herr hbz hX4 hb6 hc6 hXw6 hF7 hEc hEb
    go_wp2_with fail
    refine (bagForget_x C mc n5 (-1) t T5 _ _ hc7 hx5 hCm (by omega) (by omega) h0' ht').mono ?_
    rintro ee w8 (⟨-, rfl, hX8⟩ | ⟨hre2, rfl, T6, n6, hc8, hn6, hx6, hF8⟩)
    · have hXf := hide (hXw7.trans hX8)
      clear hb7 hc7 hXw7 hX8
      go_wp2_with (go_at_call 6; first | ((with_reducible refine seq_gw' (bagLive_c _) ?_); intro g) | ((with_reducible refine seq_gw (bagLive_c _) ?_); intro g))
      go_returns
      exact ⟨by first | rfl | simp, hXf.out.trans g.grown⟩
    · have hb8 := bg_other hb7 hc7.1 hc7.2.1.isMap hF8 (by omega) (by omega) (by omega) (by omega)
      have hXw8 := hide (ext_fr hXw7 hF8 (by intro y hy; simp only [List.mem_cons, List.not_mem_nil, or_false] at hy; omega))
      have hs := hsame.out hre2
      rw [hs] at hx6
      have hb8' := hide hb8
      have hc8' := hide hc8
      have hx4' := hide hx4
      have hx6' := hide hx6
      clear hb7 hc7 hXw7 hF8 hb8 hc8 hx4 hx6 hs
      go_wp2_with (go_at_call 6; first | ((with_reducible refine seq_gw' (bagLive_c _) ?_); intro g) | ((with_reducible refine seq_gw (bagLive_c _) ?_); intro g))
      refine (bagEdges_c B mb n4 t T4 _ _ (hb8'.out.ext g.grown) hx4'.out).mono ?_
      rintro ee w9 ⟨u9, M9, rfl, hM9, ho9, hX9⟩
      obtain ⟨A9, c9, rfl⟩ := own_form ho9.1
      have hXs := hide (g.grown.trans hX9)
      have hw9 := hide ho9.ew
      clear ho9 hX9
      go_wp2_with fail
      refine (bagEdges_c C mc n6 t T6 _ _ (hc8'.out.ext hXs.out) hx6'.out).mono ?_
      rintro ee w10 ⟨u10, M10, rfl, hM10, ho10, hX10⟩
      obtain ⟨A10, c10, rfl⟩ := own_form ho10.1
      have hsm := refEdgeSame_c (hw9.out.ext hX10) ho10.ew
      rw [hM9, hM10, decide_eq_true rfl] at hsm
      have hXt := hide (hXs.out.trans hX10)
      clear ho10 hX10
      go_wp2_with (go_at_call 11; ((with_reducible refine seq_gw hsm ?_); intro g11; clear hsm))
      go_returns
      exact ⟨by first | rfl | simp, (hXw8.out.trans hXt.out).trans g11.grown⟩
  · have hXw7 : Ext w w7 := by
      rcases hh with ⟨-, hX⟩ | ⟨-, _, _, -, -, -, k4⟩
      · exact hXw6.trans hX
      · exact ext_fr hXw6 k4 (by intro y hy; simp only [List.mem_singleton] at hy; omega)
    have hXf := hide hXw7
    clear hh hb6 hc6 hXw6 hX4 hbz hXw7 hEc hEb
    rcases herr with rfl | rfl | rfl
    · have hne : Eb ≠ 0 := fun h => hz ⟨h, h⟩
      have hneI : (Eb == 0) = false := by rw [beq_eq_false_iff_ne]; exact hne
      go_wp2_with (go_at_call 6; first | ((with_reducible refine seq_gw' (bagLive_c _) ?_); intro g) | ((with_reducible refine seq_gw (bagLive_c _) ?_); intro g))
      go_returns
      exact ⟨by first | rfl | simp, hXf.out.trans g.grown⟩
    · by_cases hb0 : Eb = 0
      · subst hb0
        go_wp2_with (go_at_call 6; first | ((with_reducible refine seq_gw' (bagLive_c _) ?_); intro g) | ((with_reducible refine seq_gw (bagLive_c _) ?_); intro g))
        go_returns
        exact ⟨by first | rfl | simp, hXf.out.trans g.grown⟩
      · have hneI : (Eb == 0) = false := by rw [beq_eq_false_iff_ne]; exact hb0
        by_cases he7 : Eb = 7
        · subst he7
          go_wp2_with (go_at_call 6; first | ((with_reducible refine seq_gw' (bagLive_c _) ?_); intro g) | ((with_reducible refine seq_gw (bagLive_c _) ?_); intro g))
          go_returns
          exact ⟨by first | rfl | simp, hXf.out.trans g.grown⟩
        · have he7I : (Eb == 7) = false := by rw [beq_eq_false_iff_ne]; exact he7
          go_wp2_with (go_at_call 6; first | ((with_reducible refine seq_gw' (bagLive_c _) ?_); intro g) | ((with_reducible refine seq_gw (bagLive_c _) ?_); intro g))
          go_returns
          exact ⟨by first | rfl | simp, hXf.out.trans g.grown⟩
    · by_cases he7 : Ec = 7
      · subst he7
        go_wp2_with (go_at_call 6; first | ((with_reducible refine seq_gw' (bagLive_c _) ?_); intro g) | ((with_reducible refine seq_gw (bagLive_c _) ?_); intro g))
        go_returns
        exact ⟨by first | rfl | simp, hXf.out.trans g.grown⟩
      · have he7I : (7 == Ec) = false := by rw [beq_eq_false_iff_ne]; omega
        have he7J : (Ec == 7) = false := by rw [beq_eq_false_iff_ne]; exact he7
        go_wp2_with (go_at_call 6; first | ((with_reducible refine seq_gw' (bagLive_c _) ?_); intro g) | ((with_reducible refine seq_gw (bagLive_c _) ?_); intro g))
        go_returns
        exact ⟨by first | rfl | simp, hXf.out.trans g.grown⟩

theorem own : ownKnob Try.prog.godebug = none := by kernel_rfl
theorem laidOut : laidOutB Try.prog = true := by kernel_rfl
set_option maxRecDepth 100000 in
theorem lifted (os : Os) (started : os.Started) (H : Type) (enc : TypeId × Value → H) :
    ReturnsInHanded {} Try.checked os 3 .any (Rows.bagForgetsSpec.pre6 enc Try.prog Try.f3 Rows.bagForgetsRow.domain false) (Rows.bagForgetsSpec.post enc Try.prog Try.f3 false true false false) := by
  refine returnsInHanded_of_change_sized (C := Try.checked) own started (by kernel_rfl) Try.func3
    (ChangeSpec.witness6 (enc := enc) (C := Try.checked) false ⟨#[], #[.slice none 0 0, .slice none 0 0, .int .i64 0], []⟩ 8 (by kernel_rfl) (by kernel_rfl) (by kernel_rfl) (by kernel_rfl)) ?_
  intro W base args ds gs before hval0 hW hcnd hsz0 _
  have hsz : (DataW.weightsEach Try.prog (Try.f3.params.toList ++ Rows.bagForgetsSpec.plain.varTypes Try.prog) (ds ++ gs)).all (· ≤ reachBytes) = true := hsz0
  clear hsz0
  have hval : ∀ (j : Nat) t v, Try.f3.params[j]? = some t → args[j]? = some v → Value.okWide Try.prog W .any base t v := hval0
  have hW' := hW
  obtain ⟨p, q, hA0, hV, rfl, hfz, hnd⟩ := hW
  have hA : DataW.TrodAll enc Try.prog W 0 (fun _ => true) true Try.f3.params.toList args.toList ds p := hA0
  rw [Try.params3] at hA hval hsz
  obtain ⟨v0, vs0, d0, ds0, p0, q0, hargs, rfl, rfl, h0, r0⟩ := trodAll_cons hA
  obtain ⟨v1, vs1, d1, ds1, p1, q1, rfl, rfl, rfl, h1, r1⟩ := trodAll_cons r0
  obtain ⟨v2, vs2, d2, ds2, p2, q2, rfl, rfl, rfl, h2, r2⟩ := trodAll_cons r1
  obtain ⟨rfl, rfl, rfl⟩ := trodAll_nil r2
  obtain rfl : args = #[v0, v1, v2] := by cases args; simp_all
  obtain ⟨rfl, rfl⟩ := trodVars_none hV
  have k0 := h0
  have lt0 : ∀ x ∈ p0, x.block < W.heap.size := by obtain ⟨m, hm⟩ := k0; exact DataW.trod_lt m _ _ _ hm
  obtain ⟨A0, n0, c0, rfl⟩ := okWide_slice Try.underlying22 (hval 0 22 v0 rfl rfl)
  have ⟨m0, hm0⟩ := h0
  obtain ⟨a, la, ha, qa⟩ := open_edgesI Try.underlying22 Try.underlying36 (by kernel_rfl) rfl rfl rfl (by kernel_rfl) (by kernel_rfl) (by kernel_rfl) Try.underlying34 Try.underlying3 Try.underlying3 Try.underlying64 (by kernel_rfl) rfl rfl rfl (by kernel_rfl) (by kernel_rfl) (by kernel_rfl) Try.underlying62 Try.underlying3 Try.underlying9 hm0
  have za : a.length * 40 ≤ 140737488351232 := by rw [la]; exact sized_elems hsz (j := 0) (t := 22) (e := 36) rfl rfl Try.underlying22 (by kernel_rfl)
  have k1 := h1
  have lt1 : ∀ x ∈ p1, x.block < W.heap.size := by obtain ⟨m, hm⟩ := k1; exact DataW.trod_lt m _ _ _ hm
  obtain ⟨A1, n1, c1, rfl⟩ := okWide_slice Try.underlying22 (hval 1 22 v1 rfl rfl)
  have ⟨m1, hm1⟩ := h1
  obtain ⟨b, lb, hb, qb⟩ := open_edgesI Try.underlying22 Try.underlying36 (by kernel_rfl) rfl rfl rfl (by kernel_rfl) (by kernel_rfl) (by kernel_rfl) Try.underlying34 Try.underlying3 Try.underlying3 Try.underlying64 (by kernel_rfl) rfl rfl rfl (by kernel_rfl) (by kernel_rfl) (by kernel_rfl) Try.underlying62 Try.underlying3 Try.underlying9 hm1
  have zb : b.length * 40 ≤ 140737488351232 := by rw [lb]; exact sized_elems hsz (j := 1) (t := 22) (e := 36) rfl rfl Try.underlying22 (by kernel_rfl)
  have k2 := h2
  have lt2 : ∀ x ∈ p2, x.block < W.heap.size := by obtain ⟨m, hm⟩ := k2; exact DataW.trod_lt m _ _ _ hm
  obtain ⟨t, rfl, _, _, wt⟩ := open_int Try.underlying3 (hval 2 3 v2 rfl rfl) h2
  have ht := wf_i64 wt
  clear hA0 hval0
  refine (walk a b t qa qb _ _ W ha hb).mono fun e W' ⟨he, bel⟩ => ?_
  subst he
  exact ⟨_, rfl, _, _, _, [], _, [], hW', trodAll_mk1 (shut_bool Try.underlying4 _), (trodAll_cons_mk (Below.trod laidOut (by kernel_rfl) (of_decide_eq_true (by kernel_rfl)) k0 bel lt0) (trodAll_cons_mk (Below.trod laidOut (by kernel_rfl) (of_decide_eq_true (by kernel_rfl)) k1 bel lt1) (trodAll_cons_mk (Below.trod laidOut (by kernel_rfl) (of_decide_eq_true (by kernel_rfl)) k2 bel lt2) trodAll_mk0))), rfl, bel.frame _, fun h => by cases h⟩

theorem over : Rows.bagForgetsRow.holds Try.pinned (OpenSpec.ofChange Rows.bagForgetsSpec) :=
  OpenClaim.holds_of_wide 3 Try.f3 rfl rfl rfl rfl rfl rfl rfl ⟨rfl, rfl, rfl, rfl, rfl⟩ rfl rfl rfl rfl rfl (by kernel_rfl) Try.func3 (by kernel_rfl)
    (of_decide_eq_true (by kernel_rfl)) (by unfold Func.isWrapper; first | (rw [if_pos (by decide +kernel)]; kernel_rfl) | (rw [if_neg (by decide +kernel)]; exact ⟨rfl, rfl⟩))
    (fun os started H enc _ => lifted os started H enc)

theorem bagForgets_holds : Rows.BagForgetsSaid := over
end Go.Proofs.Ytoghgjgaolinaaa.bagForgets
