/-
  A helper of ours: no claim of its own. Layer 32 (anti): what is alone ahead of a tick; the walk of the law AntiAhead.
-/
import Derived.Test.YtljkneajdndgjabGreatEdgBj
import Derived.Test.YtljkneajdndgjabGreatAntG
import Derived.Test.YtljkneajdndgjabGreatStepR
import Derived.Test.YtljkneajdndgjabGreatAntiAheadF
import Derived.Test.YtljkneajdndgjabGreatEdgK
set_option linter.unusedVariables false
set_option linter.unusedSimpArgs false
namespace Go.Proofs.YtljkneajdndgjabGreat
open Go.RowKit
attribute [local go_sem] GW.cell GW.frozen In.eq_true In.le_true In.ne In.ne' In.ne_add In.ne_add' In.lt_add Upto.le_true Upto.le_add Upto.lt_add
theorem grp_src : ∀ (l : List Ed) (g : Gp), g ∈ grp l → ∃ e ∈ l, e.1 = g.1
  | [], g, hg => by simp [grp] at hg
  | e :: l, g, hg => by
    have ih := grp_src l
    rw [grp] at hg
    split at hg
    · obtain rfl := List.mem_singleton.1 hg
      exact ⟨e, List.mem_cons_self .., rfl⟩
    · rename_i q f t h
      rw [h] at ih
      split at hg
      · rename_i hq
        rcases List.mem_cons.1 hg with rfl | hg
        · exact ⟨e, List.mem_cons_self .., hq.symm⟩
        · obtain ⟨d, hd, h2⟩ := ih g (List.mem_cons_of_mem _ hg)
          exact ⟨d, List.mem_cons_of_mem _ hd, h2⟩
      · rcases List.mem_cons.1 hg with rfl | hg
        · exact ⟨e, List.mem_cons_self .., rfl⟩
        · obtain ⟨d, hd, h2⟩ := ih g hg
          exact ⟨d, List.mem_cons_of_mem _ hd, h2⟩
theorem grp_in {l : List Ed} (h : ∀ e ∈ l, ∀ v ∈ e.1, inW v) : ∀ g ∈ grp l, ∀ v ∈ g.1, inW v := fun g hg => by
  obtain ⟨e, he, e1⟩ := grp_src l g hg
  rw [← e1]
  exact h e he
end Go.Proofs.YtljkneajdndgjabGreat
set_option linter.unusedVariables false
set_option linter.unusedSimpArgs false
namespace Go.Proofs.YtljkneajdndgjabGreat
open Go.RowKit
attribute [local go_sem] GW.cell GW.frozen In.eq_true In.le_true In.ne In.ne' In.ne_add In.ne_add' In.lt_add Upto.le_true Upto.le_add Upto.lt_add
theorem ajv_stay {f : List Jp} {p : Int} (h : ∀ j ∈ f, j.1 ≠ p) : jv f p = jv f (p - 1) := by
  induction f with
  | nil => rfl
  | cons a r ih =>
    rw [jv, jv, ih (fun j hj => h j (List.mem_cons_of_mem _ hj))]
    have := h a (by simp)
    congr 1
    by_cases h1 : a.1 ≤ p
    · rw [if_pos h1, if_pos (by omega)]
    · rw [if_neg h1, if_neg (by omega)]
theorem aleF_iff (f : List Jp) : ∀ (g : List Jp) (m : Int), 0 ≤ leF f m g ↔ 0 ≤ m ∧ ∀ j ∈ g, 0 ≤ jv f j.1
  | [], m => by simp [leF]
  | a :: g, m => by
    have ih := aleF_iff f g (min m (jv f a.1))
    have e : leF f m (a :: g) = leF f (min m (jv f a.1)) g := by simp [leF]
    rw [e, ih]
    constructor
    · rintro ⟨h1, h2⟩
      refine ⟨by omega, fun j hj => ?_⟩
      rcases List.mem_cons.1 hj with rfl | hj
      · omega
      · exact h2 j hj
    · rintro ⟨h1, h2⟩
      exact ⟨by have := h2 a (by simp); omega, fun j hj => h2 j (List.mem_cons_of_mem _ hj)⟩
/-- Nowhere below none. -/
theorem ale_iff {f : List Jp} (h : mayJ f = true) : 0 ≤ leV f ↔ ∀ p, -1 ≤ p → 0 ≤ jv f p := by
  unfold leV
  rw [if_pos h, aleF_iff]
  constructor
  · rintro ⟨h1, h2⟩
    have key : ∀ n : Nat, 0 ≤ jv f ((n : Int) - 1) := by
      intro n
      induction n with
      | zero => exact h1
      | succ n ih =>
        by_cases hj : ∃ j ∈ f, j.1 = ((n + 1 : Nat) : Int) - 1
        · obtain ⟨j, hj, e⟩ := hj
          rw [← e]; exact h2 j hj
        · rw [ajv_stay (fun j hj' e => hj ⟨j, hj', e⟩)]
          have : ((n + 1 : Nat) : Int) - 1 - 1 = (n : Int) - 1 := by omega
          rw [this]; exact ih
    intro p hp
    have := key (p + 1).toNat
    rwa [show (((p + 1).toNat : Nat) : Int) - 1 = p by omega] at this
  · intro k
    exact ⟨k _ (Int.le_refl _), fun j hj => k _ (mayJ_at h j hj).1⟩
/-- What is alone is nowhere below none. -/
theorem woR_le {q : List Vl} {J : List Jp} {x : List Vl} {H : List Gp} (h : woE q J x H = 0) (hJ : 0 ≤ leV J) : 0 ≤ leV (woR q J x H) := by
  have hm := woR_may h
  rw [ale_iff hm]
  unfold woE at h
  unfold woR
  split at h
  · rename_i h0
    obtain ⟨m1, m2, m3⟩ := twE_zero.1 h
    rw [ale_iff m1] at hJ
    rw [if_pos h0, twR_ok h]
    intro p hp
    rw [opd_all (op := whO) rfl m1 m2]
    unfold whO
    split
    · exact hJ p hp
    · exact Int.le_refl 0
  · rename_i h0
    exact absurd h h0
/-- What the document has put together. -/
theorem ra_out {l : List Ed} {x : List Vl} {H : List Gp} (hl : mayE l = true) (h : (raGo x H (grp l) []).1 = 0) : (∀ q ∈ rowsL l, woE q (jmps l q) x H = 0) ∧ (raGo x H (grp l) []).2 = evL idO ((rowsL l).map fun q => (q, woR q (jmps l q) x H)) := by
  have hR := mayE_rise hl
  obtain ⟨m1, m2⟩ := raGo_flat x H (grp l) [] h
  rw [grp_eq hR] at m1
  refine ⟨fun q hq => m1 (q, jmps l q) (List.mem_map.2 ⟨q, hq, rfl⟩), ?_⟩
  rw [m2, grp_eq hR]
  unfold byRows evL
  rw [List.nil_append, List.flatMap_map, List.flatMap_map]
  rfl
/-- What has no partner is a table, and what it is at each row. -/
theorem ao_rows {l r : List Ed} {x : List Vl} (h : aoE l r x = 0) : mayE l = true ∧ mayE r = true ∧ tabE l = true ∧ tabE r = true ∧ formE x = 0 ∧ (∀ q ∈ rowsL l, woE q (jmps l q) x (grp r) = 0) ∧ aoR l r x = evL idO ((rowsL l).map fun q => (q, woR q (jmps l q) x (grp r))) ∧ (aoR l r x).length ≤ 4096 := by
  have h' := h
  unfold aoE at h'
  split at h'
  case isFalse => exact absurd h' (by decide)
  rename_i h1
  split at h'
  case isFalse => exact absurd h' (by decide)
  rename_i h2
  split at h'
  case isFalse h3 => exact absurd h' h3
  rename_i h3
  rw [Bool.and_eq_true] at h1 h2
  obtain ⟨s1, s2⟩ := ao_ra l r x h1.1 h1.2 h2.1 h2.2 h3
  rw [h] at s1
  by_cases h0 : (raGo x (grp r) (grp l) []).1 = 0
  · rw [if_pos h0] at s1 s2
    obtain ⟨m1, m2⟩ := ra_out h1.1 h0
    have hR := mayE_rise h1.1
    have hrow := rowsL_ok hR.1
    have hv : ∀ q ∈ rowsL l, mayR q = true := fun q hq => by
      obtain ⟨e, he, rfl⟩ := (hrow.2 q).1 hq
      exact hR.1 e he
    obtain ⟨n1, n2⟩ := ne_flat (fun q => woR q (jmps l q) x (grp r)) (rowsL l) hrow.1 hv (fun q hq => woR_may (m1 q hq)) _ m2
    rw [n1] at s1
    rw [n2] at s2
    by_cases h4 : 4096 < (raGo x (grp r) (grp l) []).2.length
    · rw [if_pos h4] at s1
      exact absurd s1 (by decide)
    · rw [if_neg h4] at s2
      exact ⟨h1.1, h1.2, h2.1, h2.2, h3, m1, by rw [s2, m2], by rw [s2]; omega⟩
  · rw [if_neg h0] at s1
    exact absurd s1.symm h0
theorem ao_jmps {l r : List Ed} {x : List Vl} (h : aoE l r x = 0) (q : List Vl) : jmps (aoR l r x) q = if hasR (rowsL l) q then woR q (jmps l q) x (grp r) else [] := by
  obtain ⟨h1, -, -, -, -, -, h6, -⟩ := ao_rows h
  rw [h6, jmps_rows idO (fun q => woR q (jmps l q) x (grp r)) q _ (rowsL_ok (mayE_rise h1).1).1]
  rfl
theorem ao_table {l r : List Ed} {x : List Vl} (h : aoE l r x = 0) : tabE (aoR l r x) = true := by
  obtain ⟨h1, h2, h3, h4, h5, h6, h7, h8⟩ := ao_rows h
  have hR := mayE_rise h1
  have hrow := rowsL_ok hR.1
  have hv : ∀ q ∈ rowsL l, mayR q = true := fun q hq => by
    obtain ⟨e, he, rfl⟩ := (hrow.2 q).1 hq
    exact hR.1 e he
  have hr : Rise (aoR l r x) := by rw [h7]; exact rise_rows idO _ _ hrow.1 hv
  have hjm : ∀ q, mayJ (jmps (aoR l r x) q) = true ∧ 0 ≤ leV (jmps (aoR l r x) q) := fun q => by
    rw [ao_jmps h]
    split
    · rename_i hq
      have hq' := hasR_iff.1 hq
      have hle : 0 ≤ leV (jmps l q) := by
        rw [tabE_rows h1, List.all_eq_true] at h3
        exact of_decide_eq_true (h3 q hq')
      exact ⟨woR_may (h6 q hq'), woR_le (h6 q hq') hle⟩
    · exact ⟨mayJ_nil, by decide⟩
  have hm : mayE (aoR l r x) = true := mayE_iff.2 ⟨h8, hr, fun g hg => by rw [((grp_rows hr).2.2 g hg).1]; exact (hjm g.1).1⟩
  rw [tabE_rows hm, List.all_eq_true]
  intro q _
  exact decide_eq_true (hjm q).2
end Go.Proofs.YtljkneajdndgjabGreat
set_option linter.unusedVariables false
set_option linter.unusedSimpArgs false
namespace Go.Proofs.YtljkneajdndgjabGreat
open Go.RowKit
theorem jv_nn {f : List Jp} (hm : mayJ f = true) (h : 0 ≤ leV f) (t : Int) : 0 ≤ jv f t := by
  by_cases ht : -1 ≤ t
  · exact (ale_iff hm).1 h t ht
  · rw [jv_low (fun j hj => by have := (mayJ_at hm j hj).1; omega)]
    exact Int.le_refl 0
/-- The sum of the partners, at a tick: above none just where a partner is. -/
theorem pGo_val {q x : List Vl} {J : List Jp} (t : Int) : ∀ (H : List Gp) (S S' : List Jp), mayJ S = true → 0 ≤ jv S t → (∀ g ∈ H, mayJ g.2 = true ∧ 0 ≤ jv g.2 t) → pGo q J x H S = (0, S') →
    mayJ S' = true ∧ (∀ g ∈ H, twE mulO J g.2 = 0 ∧ (twR mulO J g.2 ≠ [] → joinE q g.1 = 0 ∧ (hoX x (joinV q g.1)).2 = 0)) ∧ 0 ≤ jv S' t ∧ (jv S' t = 0 ↔ jv S t = 0 ∧ ∀ g ∈ H, (isX q J g.1 g.2 x).1 = true → jv g.2 t = 0)
  | [], S, S', hS, hn, _, h => by
    rw [pGo] at h
    obtain rfl : S = S' := (Prod.mk.inj h).2
    exact ⟨hS, by simp, hn, by simp⟩
  | (o, g) :: H, S, S', hS, hn, hH, h => by
    rw [pGo] at h
    by_cases h0 : pE q J x S o g = 0
    case neg =>
      rw [if_neg h0] at h
      exact absurd (Prod.mk.inj h).1 h0
    rw [if_pos h0] at h
    have hg := hH (o, g) (List.mem_cons_self ..)
    simp only at hg
    have hX2 : (isX q J o g x).1 = false → (isX q J o g x).2 = 0 := fun hf => by
      unfold pE at h0
      rw [hf] at h0
      simpa using h0
    have hme : twE mulO J g = 0 ∧ (twR mulO J g ≠ [] → joinE q o = 0 ∧ (hoX x (joinV q o)).2 = 0) := by
      unfold isX at hX2
      split at hX2
      · rename_i e1
        refine ⟨e1, fun e2 => ?_⟩
        rw [if_neg e2] at hX2
        split at hX2
        · rename_i e3
          refine ⟨e3, ?_⟩
          cases hb : (hoX x (joinV q o)).1 with
          | false => exact hX2 hb
          | true =>
            by_cases hz : (hoX x (joinV q o)).2 = 0
            · exact hz
            · rw [hoX_bad hz] at hb
              cases hb
        · rename_i e3
          exact absurd (hX2 rfl) e3
      · rename_i e1
        exact absurd (hX2 rfl) e1
    have key : mayJ (pS q J x S o g) = true ∧ 0 ≤ jv (pS q J x S o g) t ∧ (jv (pS q J x S o g) t = 0 ↔ jv S t = 0 ∧ ((isX q J o g x).1 = true → jv g t = 0)) := by
      unfold pS
      unfold pE at h0
      cases hb : (isX q J o g x).1 with
      | false =>
        exact ⟨hS, hn, by simp⟩
      | true =>
        rw [hb, if_pos rfl] at h0
        obtain ⟨m1, m2, m3⟩ := twE_zero.1 h0
        rw [if_pos rfl, twR_ok h0]
        refine ⟨m3, ?_⟩
        rw [opd_all (op := addO) rfl m1 m2]
        unfold addO
        exact ⟨by omega, by constructor <;> intro k <;> simp at * <;> omega⟩
    obtain ⟨k1, k2, k3⟩ := key
    obtain ⟨i1, i2, i3, i4⟩ := pGo_val t H _ S' k1 k2 (fun g hg => hH g (List.mem_cons_of_mem _ hg)) h
    refine ⟨i1, fun d hd => ?_, i3, ?_⟩
    · rcases List.mem_cons.1 hd with rfl | hd
      · exact hme
      · exact i2 d hd
    · rw [i4, k3]
      constructor
      · rintro ⟨⟨a1, a2⟩, a3⟩
        refine ⟨a1, fun d hd => ?_⟩
        rcases List.mem_cons.1 hd with rfl | hd
        · exact a2
        · exact a3 d hd
      · rintro ⟨a1, a2⟩
        exact ⟨⟨a1, a2 (o, g) (List.mem_cons_self ..)⟩, fun d hd => a2 d (List.mem_cons_of_mem _ hd)⟩
/-- Does a row of the other list forbid a row at a tick? -/
def forb (x q : List Vl) (r : List Ed) (t : Int) (o : List Vl) : Prop := joinE q o = 0 ∧ hoX x (joinV q o) = (true, 0) ∧ 0 < jv (jmps r o) t
theorem ao_val {l r : List Ed} {x q : List Vl} (h : aoE l r x = 0) (hq : q ∈ rowsL l) (t : Int) :
    ((∃ e ∈ r, forb x q r t e.1) → jv (jmps (aoR l r x) q) t = 0) ∧ ((¬ ∃ e ∈ r, forb x q r t e.1) → jv (jmps (aoR l r x) q) t = jv (jmps l q) t) := by
  have hj := ao_jmps h q
  rw [if_pos (hasR_iff.2 hq)] at hj
  obtain ⟨h1, h2, h3, h4, h5, h6, -, -⟩ := ao_rows h
  have hw := h6 q hq
  have hRr := mayE_rise h2
  have hJm : mayJ (jmps l q) = true := mayJ_rows h1 q
  have hJn : 0 ≤ jv (jmps l q) t := jv_nn hJm (by rw [tabE_rows h1, List.all_eq_true] at h3; exact of_decide_eq_true (h3 q hq)) t
  have hgr : ∀ o, 0 ≤ jv (jmps r o) t := fun o => by
    by_cases ho : o ∈ rowsL r
    · refine jv_nn (mayJ_rows h2 o) ?_ t
      rw [tabE_rows h2, List.all_eq_true] at h4
      exact of_decide_eq_true (h4 o ho)
    · rw [mem_rows hRr.1] at ho
      rw [Decidable.not_not.1 ho]
      exact Int.le_refl 0
  have hH : ∀ g ∈ grp r, ∃ o ∈ rowsL r, g = (o, jmps r o) := fun g hg => by
    rw [grp_eq hRr] at hg
    obtain ⟨o, ho, rfl⟩ := List.mem_map.1 hg
    exact ⟨o, ho, rfl⟩
  unfold woE at hw
  unfold woR at hj
  split at hw
  case isFalse h0 => exact absurd hw h0
  rename_i h0
  rw [if_pos h0, twR_ok hw] at hj
  obtain ⟨m1, m2, -⟩ := twE_zero.1 hw
  obtain ⟨S, hS⟩ : ∃ S, S = (pGo q (jmps l q) x (grp r) []).2 := ⟨_, rfl⟩
  have hp : pGo q (jmps l q) x (grp r) [] = (0, S) := by rw [hS, ← h0]
  rw [← hS] at hj m2
  obtain ⟨-, k2, k3, k4⟩ := pGo_val (q := q) (x := x) (J := jmps l q) t (grp r) [] S mayJ_nil (Int.le_refl 0) (fun g hg => by
    obtain ⟨o, -, rfl⟩ := hH g hg
    exact ⟨mayJ_rows h2 o, hgr o⟩) hp
  rw [hj, opd_all (op := whO) rfl m1 m2]
  unfold whO
  constructor
  · rintro ⟨e, he, f1, f2, f3⟩
    by_cases hz : jv (jmps l q) t = 0
    · split
      · exact hz
      · rfl
    · rw [if_neg]
      intro hs
      have hm : (e.1, jmps r e.1) ∈ grp r := by
        rw [grp_eq hRr]
        exact List.mem_map.2 ⟨e.1, ((rowsL_ok hRr.1).2 e.1).2 ⟨e, he, rfl⟩, rfl⟩
      obtain ⟨n1, -⟩ := k2 _ hm
      have hne : twR mulO (jmps l q) (jmps r e.1) ≠ [] := by
        rw [twR_ok n1]
        intro hnil
        obtain ⟨p1, p2, -⟩ := twE_zero.1 n1
        have hv := opd_all (op := mulO) rfl p1 p2 t
        rw [hnil] at hv
        have hv' : (0 : Int) = jv (jmps l q) t * jv (jmps r e.1) t := hv
        have := Int.mul_pos (show 0 < jv (jmps l q) t by omega) f3
        omega
      have hX : (isX q (jmps l q) e.1 (jmps r e.1) x).1 = true := by
        unfold isX
        rw [if_pos n1, if_neg hne, if_pos f1, f2]
      have := (k4.1 hs).2 _ hm hX
      simp only at this
      omega
  · intro hno
    rw [if_pos]
    refine k4.2 ⟨rfl, fun g hg hX => ?_⟩
    obtain ⟨o, ho, rfl⟩ := hH g hg
    simp only at hX ⊢
    have hb : joinE q o = 0 ∧ hoX x (joinV q o) = (true, 0) := by
      unfold isX at hX
      split at hX
      · split at hX
        · cases hX
        · split at hX
          · rename_i e3
            refine ⟨e3, ?_⟩
            by_cases hz : (hoX x (joinV q o)).2 = 0
            · exact Prod.ext hX hz
            · rw [hoX_bad hz] at hX
              cases hX
          · cases hX
      · cases hX
    obtain ⟨e, he, rfl⟩ := ((rowsL_ok hRr.1).2 o).1 ho
    have h7 : ¬ 0 < jv (jmps r e.1) t := fun h8 => hno ⟨e, he, hb.1, hb.2, h8⟩
    have := hgr e.1
    omega
end Go.Proofs.YtljkneajdndgjabGreat
set_option linter.unusedVariables false
set_option linter.unusedSimpArgs false
namespace Go.Proofs.YtljkneajdndgjabGreat
open Go.RowKit
attribute [local go_sem] GW.cell GW.frozen In.eq_true In.le_true In.ne In.ne' In.ne_add In.ne_add' In.lt_add Upto.le_true Upto.le_add Upto.lt_add
theorem mp_in {op : List Jp → Int × List Jp} {l : List Ed} (h : ∀ e ∈ l, ∀ v ∈ e.1, inW v) : ∀ e ∈ mpR op l, ∀ v ∈ e.1, inW v := fun e he => by
  unfold mpR at he
  split at he
  · unfold eachR at he
    split at he
    · simp only [evL, List.mem_flatMap, List.mem_map] at he
      obtain ⟨g, hg, j, -, rfl⟩ := he
      exact grp_in h g hg
    · cases he
  · cases he
theorem row_of {l : List Ed} (hv : ∀ e ∈ l, mayR e.1 = true) {y : List Vl} {s : Int} (h : jv (jmps l y) s ≠ 0) : y ∈ rowsL l := by
  rw [mem_rows hv]
  intro hn
  rw [hn] at h
  exact h rfl
theorem ah_rows {l : List Ed} {t : Int} (h : mpE (ahOp t) l = 0) : mayE l = true ∧ Rise (mpR (ahOp t) l) ∧ ∀ y, mayJ (jmps (mpR (ahOp t) l) y) = true ∧ ∀ s, s < 1125899906842624 → jv (jmps (mpR (ahOp t) l) y) s = if s < t then jv (jmps l y) s else 0 := by
  obtain ⟨h1, h2, h3⟩ := mp_zero h
  have hv := (mayE_rise h1).1
  refine ⟨h1, by rw [h3]; exact rise_each _ hv, fun y => ?_⟩
  have e0 : (ahOp t []).2 = [] := by rw [ahOp_nil]
  have e1 : (ahOp t []).1 = 0 := by rw [ahOp_nil]
  have e2 : ahE (jmps l y) t = 0 := op_rows e1 hv h2 y
  obtain ⟨m1, m2⟩ := ahE_zero.1 e2
  rw [h3, jmps_each e0 hv y]
  have e3 : (ahOp t (jmps l y)).2 = ahL (jmps l y) t := by
    show ahR (jmps l y) t = _
    unfold ahR
    rw [if_pos e2]
  rw [e3]
  exact ⟨m2, fun s hs => by rw [ahL_val m1 t s hs]; rfl⟩
theorem al_ahead {l r : List Ed} {x : List Vl} {t : Int} (h1 : aoE l r x = 0) (h2 : mpE (ahOp t) (aoR l r x) = 0) (h3 : mpE (ahOp t) l = 0) (h4 : mpE (ahOp t) r = 0) (h5 : aoE (mpR (ahOp t) l) (mpR (ahOp t) r) x = 0) :
    mpR (ahOp t) (aoR l r x) = aoR (mpR (ahOp t) l) (mpR (ahOp t) r) x := by
  obtain ⟨-, b1, b2⟩ := ah_rows h2
  obtain ⟨la, p1, p2⟩ := ah_rows h3
  obtain ⟨ra, q1, q2⟩ := ah_rows h4
  have hct := ao_table h5
  have hcm : mayE (aoR (mpR (ahOp t) l) (mpR (ahOp t) r) x) = true := by
    unfold tabE at hct
    rw [Bool.and_eq_true] at hct
    exact hct.1
  have hvl := (mayE_rise la).1
  have hvr := (mayE_rise ra).1
  refine ed_ext b1 (mayE_rise hcm) fun y => ?_
  have m1 := (b2 y).1
  have m2 := mayJ_rows hcm y
  refine canon_eq 1125899906842624 _ _ (mayJ_canon m1) (mayJ_canon m2) (fun j hj => (mayJ_at m1 j hj).2) (fun j hj => (mayJ_at m2 j hj).2) fun s hs => ?_
  rw [(b2 y).2 s hs]
  by_cases hy : y ∈ rowsL (mpR (ahOp t) l)
  · obtain ⟨k1, k2⟩ := ao_val h5 hy s
    by_cases hst : s < t
    · rw [if_pos hst]
      have hpv : jv (jmps (mpR (ahOp t) l) y) s = jv (jmps l y) s := by rw [(p2 y).2 s hs, if_pos hst]
      by_cases hyl : y ∈ rowsL l
      · obtain ⟨n1, n2⟩ := ao_val h1 hyl s
        have hiff : (∃ e ∈ mpR (ahOp t) r, forb x y (mpR (ahOp t) r) s e.1) ↔ (∃ e ∈ r, forb x y r s e.1) := by
          constructor
          · rintro ⟨e, he, f1, f2, f3⟩
            rw [(q2 e.1).2 s hs, if_pos hst] at f3
            obtain ⟨d, hd, e1⟩ := ((rowsL_ok hvr).2 e.1).1 (row_of hvr (Int.ne_of_gt f3))
            exact ⟨d, hd, by rw [e1]; exact ⟨f1, f2, f3⟩⟩
          · rintro ⟨e, he, f1, f2, f3⟩
            have f4 : 0 < jv (jmps (mpR (ahOp t) r) e.1) s := by rw [(q2 e.1).2 s hs, if_pos hst]; exact f3
            obtain ⟨d, hd, e1⟩ := ((rowsL_ok q1.1).2 e.1).1 (row_of q1.1 (Int.ne_of_gt f4))
            exact ⟨d, hd, by rw [e1]; exact ⟨f1, f2, f4⟩⟩
        by_cases hf : ∃ e ∈ r, forb x y r s e.1
        · rw [n1 hf, k1 (hiff.2 hf)]
        · rw [n2 hf, k2 (fun h => hf (hiff.1 h)), hpv]
      · have e1 : jmps l y = [] := by
          rw [mem_rows hvl] at hyl
          exact Decidable.not_not.1 hyl
        have hj := ao_jmps h1 y
        rw [if_neg (by rw [hasR_iff]; exact hyl)] at hj
        rw [hj]
        have hz : jv (jmps (mpR (ahOp t) l) y) s = 0 := by rw [hpv, e1]; rfl
        by_cases hf : ∃ e ∈ mpR (ahOp t) r, forb x y (mpR (ahOp t) r) s e.1
        · rw [k1 hf]; rfl
        · rw [k2 hf, hz]; rfl
    · rw [if_neg hst]
      have hz : jv (jmps (mpR (ahOp t) l) y) s = 0 := by rw [(p2 y).2 s hs, if_neg hst]
      by_cases hf : ∃ e ∈ mpR (ahOp t) r, forb x y (mpR (ahOp t) r) s e.1
      · rw [k1 hf]
      · rw [k2 hf, hz]
  · have hj := ao_jmps h5 y
    rw [if_neg (by rw [hasR_iff]; exact hy)] at hj
    rw [hj]
    have e1 : jmps (mpR (ahOp t) l) y = [] := by
      rw [mem_rows p1.1] at hy
      exact Decidable.not_not.1 hy
    split
    · rename_i hst
      have hz : jv (jmps l y) s = 0 := by
        have := (p2 y).2 s hs
        rw [e1, if_pos hst] at this
        exact this.symm
      by_cases hyl : y ∈ rowsL l
      · obtain ⟨n1, n2⟩ := ao_val h1 hyl s
        by_cases hf : ∃ e ∈ r, forb x y r s e.1
        · rw [n1 hf]; rfl
        · rw [n2 hf, hz]; rfl
      · have hj := ao_jmps h1 y
        rw [if_neg (by rw [hasR_iff]; exact hyl)] at hj
        rw [hj]
    · rfl
end Go.Proofs.YtljkneajdndgjabGreat
