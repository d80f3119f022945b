/-
  A helper of ours: no claim of its own. Layer 28 (hop): windows from a tick on hang on what is there from the tick on (lists alone).
-/
import Derived.Test.YtjdbjnpomndfjaaEdgGr
import Derived.Test.YtjdbjnpomndfjaaHopL
import Derived.Test.YtjdbjnpomndfjaaSnaS
set_option linter.unusedVariables false
set_option linter.unusedSimpArgs false
namespace Go.Proofs.Ytjdbjnpomndfjaa
open Go.RowKit
theorem mayJ_jmps {l : List Ed} (hm : mayE l = true) (r : List Vl) : mayJ (jmps l r) = true := by
  by_cases h : jmps l r = []
  · rw [h]; rfl
  · have h1 := (mem_rows (mayE_rise hm).1 r).2 h
    refine (mayE_iff.1 hm).2.2 (r, jmps l r) ?_
    rw [grp_eq (mayE_rise hm)]
    exact List.mem_map.2 ⟨r, h1, rfl⟩
theorem hrows_rows {s hp f R t : Int} {l : List Ed} (hm : mayE l = true) : hrows s hp f R (grp l) t = ((rowsL l).filter fun r => decide (t ∈ ofL s hp R (jmps l r) f)).map fun r => (r, copN (jmps l r) t (hend s t)) := by
  unfold hrows
  rw [grp_eq (mayE_rise hm)]
  unfold byRows
  rw [List.filter_map, List.map_map]
  rfl
theorem ofL_row {s hp f R t : Int} {l : List Ed} (hm : mayE l = true) {r : List Vl} (h : t ∈ ofL s hp R (jmps l r) f) : r ∈ rowsL l := by
  rw [mem_rows (mayE_rise hm).1]
  intro e
  rw [e] at h
  simp [ofL, ofSt] at h
section
variable {s hp f R T : Int} {l m : List Ed}
end
end Go.Proofs.Ytjdbjnpomndfjaa
set_option linter.unusedVariables false
set_option linter.unusedSimpArgs false
namespace Go.Proofs.Ytjdbjnpomndfjaa
open Go.RowKit
theorem hjv_stay {f : List Jp} {p : Int} (h : ∀ j ∈ f, j.1 ≠ p) : jv f p = jv f (p - 1) := by
  induction f with
  | nil => rfl
  | cons a r ih =>
    rw [jv, jv, ih (fun j hj => h j (List.mem_cons_of_mem _ hj))]
    have := h a (by simp)
    congr 1
    by_cases h1 : a.1 ≤ p
    · rw [if_pos h1, if_pos (by omega)]
    · rw [if_neg h1, if_neg (by omega)]
theorem hleF_iff (f : List Jp) : ∀ (g : List Jp) (m : Int), 0 ≤ leF f m g ↔ 0 ≤ m ∧ ∀ j ∈ g, 0 ≤ jv f j.1
  | [], m => by simp [leF]
  | a :: g, m => by
    have ih := hleF_iff f g (min m (jv f a.1))
    have e : leF f m (a :: g) = leF f (min m (jv f a.1)) g := by simp [leF]
    rw [e, ih]
    constructor
    · rintro ⟨h1, h2⟩
      refine ⟨by omega, fun j hj => ?_⟩
      rcases List.mem_cons.1 hj with rfl | hj
      · omega
      · exact h2 j hj
    · rintro ⟨h1, h2⟩
      exact ⟨by have := h2 a (by simp); omega, fun j hj => h2 j (List.mem_cons_of_mem _ hj)⟩
/-- Nowhere below none. -/
theorem hle_iff {f : List Jp} (h : mayJ f = true) : 0 ≤ leV f ↔ ∀ p, -1 ≤ p → 0 ≤ jv f p := by
  unfold leV
  rw [if_pos h, hleF_iff]
  constructor
  · rintro ⟨h1, h2⟩
    have key : ∀ n : Nat, 0 ≤ jv f ((n : Int) - 1) := by
      intro n
      induction n with
      | zero => exact h1
      | succ n ih =>
        by_cases hj : ∃ j ∈ f, j.1 = ((n + 1 : Nat) : Int) - 1
        · obtain ⟨j, hj, e⟩ := hj
          rw [← e]; exact h2 j hj
        · rw [hjv_stay (fun j hj' e => hj ⟨j, hj', e⟩)]
          have : ((n + 1 : Nat) : Int) - 1 - 1 = (n : Int) - 1 := by omega
          rw [this]; exact ih
    intro p hp
    have := key (p + 1).toNat
    rwa [show (((p + 1).toNat : Nat) : Int) - 1 = p by omega] at this
  · intro k
    exact ⟨k _ (Int.le_refl _), fun j hj => k _ (mayJ_at h j hj).1⟩
theorem hle_re {f : List Jp} {t : Int} (h0 : 0 ≤ t) (ht : t < 1125899906842624) (hf : reE f t = 0) (hl : 0 ≤ leV f) : 0 ≤ leV (reR f t) := by
  obtain ⟨hfm, hF⟩ := reE_zero.1 hf
  have hFm : mayJ (reR f t) = true := by unfold reR; rw [if_pos hf]; exact hF
  rw [hle_iff hFm]
  rw [hle_iff hfm] at hl
  intro p hp
  rw [← atV_of hFm]
  by_cases hpt : p < t
  · rw [re_left hf hpt hp ht, atV_of hfm]; exact hl _ (by omega)
  · rw [re_right hf (by omega) h0 ht, atV_of hfm]; exact hl p hp
theorem tab_iff {l : List Ed} (hm : mayE l = true) : tabE l = true ↔ ∀ r, 0 ≤ leV (jmps l r) := by
  unfold tabE
  rw [hm, Bool.true_and, List.all_eq_true]
  rw [grp_eq (mayE_rise hm)]
  constructor
  · intro h r
    by_cases hr : r ∈ rowsL l
    · have := h (r, jmps l r) (List.mem_map.2 ⟨r, hr, rfl⟩)
      simpa using this
    · rw [mem_rows (mayE_rise hm).1, Classical.not_not] at hr
      rw [hr]
      decide
  · intro h g hg
    obtain ⟨r, -, rfl⟩ := List.mem_map.1 hg
    simpa using h r
/-- What is there from a tick on. -/
theorem rest_high {l : List Ed} {T : Int} (h0 : 0 ≤ T) (hT : T < 1125899906842624) (h : mpE (reOp T) l = 0) : mayE (mpR (reOp T) l) = true ∧ ((tabE l = true → tabE (mpR (reOp T) l) = true) ∧ ∀ r u, T ≤ u → jv (jmps (mpR (reOp T) l) r) u = jv (jmps l r) u) := by
  have n1 : (reOp T []).1 = 0 := by rw [reOp_nil]
  have n2 : (reOp T []).2 = [] := by rw [reOp_nil]
  obtain ⟨a, b, c⟩ := mp_zero h
  have hv := (mayE_rise a).1
  have e0 : ∀ r, reE (jmps l r) T = 0 := fun r => op_rows n1 hv b r
  have hFm : ∀ r, mayJ (reR (jmps l r) T) = true := fun r => by unfold reR; rw [if_pos (e0 r)]; exact (reE_zero.1 (e0 r)).2
  have hj : ∀ r, jmps (mpR (reOp T) l) r = reR (jmps l r) T := fun r => by rw [c, jmps_each n2 hv]; rfl
  have hlen : (evL (reOp T) (byRows l)).length ≤ 4096 := by
    unfold mpE at h
    rw [if_pos a] at h
    have := (each_zero h).2.1
    rwa [grp_eq (mayE_rise a)] at this
  have hm : mayE (mpR (reOp T) l) = true := by rw [c]; exact may_each n2 hv hlen (fun r => hFm r)
  refine ⟨hm, fun ht => ?_, fun r u hu => ?_⟩
  · rw [tab_iff hm]
    rw [tab_iff a] at ht
    intro r
    rw [hj]
    exact hle_re h0 hT (e0 r) (ht r)
  · rw [hj, ← atV_of (hFm r), re_right (e0 r) hu h0 hT, atV_of (mayJ_jmps a r)]
theorem jv_highF (J : List Jp) {T t : Int} (ht : T ≤ t) : jv (J.filter fun j => decide (T < j.1)) t = jv J t - jv J T := by
  induction J with
  | nil => rfl
  | cons j J ih =>
    rw [List.filter_cons]
    have e : ∀ u, jv (j :: J) u = (if j.1 ≤ u then j.2 else 0) + jv J u := fun u => rfl
    rw [e t, e T]
    by_cases h : T < j.1
    · rw [if_pos (by simpa using h), if_neg (show ¬ j.1 ≤ T by omega)]
      show (if j.1 ≤ t then j.2 else 0) + _ = _
      rw [ih]
      omega
    · rw [if_neg (by simpa using h), ih, if_pos (show j.1 ≤ T by omega), if_pos (show j.1 ≤ t by omega)]
      omega
theorem high_eq {J K : List Jp} {T : Int} (hJ : mayJ J = true) (hK : mayJ K = true) (h : ∀ t, T ≤ t → jv J t = jv K t) : (J.filter fun j => decide (T < j.1)) = K.filter fun j => decide (T < j.1) := by
  have cJ := mayJ_canon hJ
  have cK := mayJ_canon hK
  refine canon_eq 1125899906842624 _ _ ⟨cJ.1.sublist List.filter_sublist, fun j hj => cJ.2 j (List.mem_filter.1 hj).1⟩ ⟨cK.1.sublist List.filter_sublist, fun j hj => cK.2 j (List.mem_filter.1 hj).1⟩ (fun j hj => (mayJ_at hJ j (List.mem_filter.1 hj).1).2) (fun j hj => (mayJ_at hK j (List.mem_filter.1 hj).1).2) (fun t _ => ?_)
  by_cases ht : T ≤ t
  · rw [jv_highF J ht, jv_highF K ht, h t ht, h T (Int.le_refl _)]
  · rw [jv_low (fun j hj => by have := (List.mem_filter.1 hj).2; simp at this; omega), jv_low (fun j hj => by have := (List.mem_filter.1 hj).2; simp at this; omega)]
theorem cpS_high (J : List Jp) {a b T : Int} (ha : T ≤ a) : cpS J a b = cpS (J.filter fun j => decide (T < j.1)) a b := by
  unfold cpS
  rw [List.filter_filter]
  congr 2
  refine List.filter_congr fun j _ => ?_
  by_cases h1 : a < j.1 <;> by_cases h2 : j.1 < b <;> simp [h1, h2]
  omega
theorem copN_high {J K : List Jp} {a b T : Int} (hJ : mayJ J = true) (hK : mayJ K = true) (ha : T ≤ a) (h : ∀ t, T ≤ t → jv J t = jv K t) : copN J a b = copN K a b := by
  unfold copN
  rw [atV_of hJ, atV_of hK, h a ha, cpS_high J ha, cpS_high K ha, high_eq hJ hK h]
section
variable {s hp R T : Int} {l m : List Ed}
theorem ofL_high (hs : 1 ≤ s) (hh : 1 ≤ hp) (hR : R ≤ 1125899906842624) {J K : List Jp} (hJ : mayJ J = true) (hK : mayJ K = true) (h : ∀ u, T ≤ u → jv J u = jv K u) (t : Int) : t ∈ ofL s hp R J T ↔ t ∈ ofL s hp R K T := by
  rw [ofL_val hs hh hR hJ, ofL_val hs hh hR hK]
  constructor <;> rintro ⟨a, b, c, u, h1, h2, h3, h4⟩
  · exact ⟨a, b, c, u, h1, h2, h3, by rw [← h u (by omega)]; exact h4⟩
  · exact ⟨a, b, c, u, h1, h2, h3, by rw [h u (by omega)]; exact h4⟩
theorem hrows_high (hs : 1 ≤ s) (hh : 1 ≤ hp) (hR : R ≤ 1125899906842624) (hl : mayE l = true) (hm : mayE m = true) (h : ∀ r u, T ≤ u → jv (jmps l r) u = jv (jmps m r) u) (t : Int) : hrows s hp T R (grp l) t = hrows s hp T R (grp m) t := by
  rw [hrows_rows hl, hrows_rows hm]
  have hmem : ∀ r, t ∈ ofL s hp R (jmps l r) T ↔ t ∈ ofL s hp R (jmps m r) T := fun r => ofL_high hs hh hR (mayJ_jmps hl r) (mayJ_jmps hm r) (h r) t
  have e : ((rowsL l).filter fun r => decide (t ∈ ofL s hp R (jmps l r) T)) = (rowsL m).filter fun r => decide (t ∈ ofL s hp R (jmps m r) T) := by
    refine asc_unique rlt_irr rlt_asym _ _ ((rowsL_ok (mayE_rise hl).1).1.sublist List.filter_sublist) ((rowsL_ok (mayE_rise hm).1).1.sublist List.filter_sublist) fun r => ?_
    simp only [List.mem_filter, decide_eq_true_eq]
    exact ⟨fun ⟨_, b⟩ => ⟨ofL_row hm ((hmem r).1 b), (hmem r).1 b⟩, fun ⟨_, b⟩ => ⟨ofL_row hl ((hmem r).2 b), (hmem r).2 b⟩⟩
  rw [e]
  refine List.map_congr_left fun r hr => ?_
  simp only [List.mem_filter, decide_eq_true_eq] at hr
  have h1 := (ofL_val hs hh hR (mayJ_jmps hm r)).1 hr.2
  rw [copN_high (mayJ_jmps hl r) (mayJ_jmps hm r) h1.2.1 (h r)]
theorem hkeys_high (hs : 1 ≤ s) (hh : 1 ≤ hp) (hR : R ≤ 1125899906842624) (hl : mayE l = true) (hm : mayE m = true) (h : ∀ r u, T ≤ u → jv (jmps l r) u = jv (jmps m r) u) : hkeys s hp T R (grp l) = hkeys s hp T R (grp m) := by
  refine asc_unique (R := (· < · : Int → Int → Prop)) (fun a h => by omega) (fun a b h1 h2 => by omega) _ _ (hkeys_asc s hp T R (grp l)) (hkeys_asc s hp T R (grp m)) fun t => ?_
  rw [← hrows_none, ← hrows_none, hrows_high hs hh hR hl hm h]
/-- The windows from a tick on. -/
theorem hpE_high (hl : mayE l = true) (hm : mayE m = true) (hlt : tabE l = true) (hmt : tabE m = true) (h : ∀ r u, T ≤ u → jv (jmps l r) u = jv (jmps m r) u) : hpE l s hp T R = hpE m s hp T R ∧ hpL l s hp T R = hpL m s hp T R := by
  by_cases c1 : hlen s = true ∧ hlen hp = true
  case neg =>
    have e1 : ∀ l : List Ed, hpE l s hp T R = 2 := fun l => by unfold hpE; rw [if_neg (fun k => c1 ⟨k.1, k.2.1⟩)]
    unfold hpL
    rw [e1, e1]
    exact ⟨rfl, rfl⟩
  by_cases c2 : htick T = true ∧ htick R = true
  case neg =>
    have e1 : hpE l s hp T R = 13 := by unfold hpE; rw [if_pos ⟨c1.1, c1.2, hl⟩, if_pos hlt, if_neg c2]
    have e2 : hpE m s hp T R = 13 := by unfold hpE; rw [if_pos ⟨c1.1, c1.2, hm⟩, if_pos hmt, if_neg c2]
    unfold hpL
    rw [e1, e2]
    exact ⟨rfl, rfl⟩
  have hs := (hlen_iff.1 c1.1).1
  have hh := (hlen_iff.1 c1.2).1
  have hR := (htick_iff.1 c2.2).2
  have hk := hkeys_high hs hh hR hl hm h
  have e1 : hpE l s hp T R = hcE s hp T R (grp l) := by unfold hpE; rw [if_pos ⟨c1.1, c1.2, hl⟩, if_pos hlt, if_pos c2]
  have e2 : hpE m s hp T R = hcE s hp T R (grp m) := by unfold hpE; rw [if_pos ⟨c1.1, c1.2, hm⟩, if_pos hmt, if_pos c2]
  have e3 : hcE s hp T R (grp l) = hcE s hp T R (grp m) := by unfold hcE; rw [hk]
  refine ⟨by rw [e1, e2, e3], ?_⟩
  unfold hpL
  rw [e1, e2, e3]
  split
  · unfold hpT
    rw [hk]
    refine List.map_congr_left fun t _ => ?_
    rw [hrows_high hs hh hR hl hm h t]
  · rfl
end
end Go.Proofs.Ytjdbjnpomndfjaa
