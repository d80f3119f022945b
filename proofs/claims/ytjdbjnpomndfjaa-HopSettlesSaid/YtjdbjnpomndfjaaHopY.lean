/-
  A helper of ours: no claim of its own. Layer 28 (hop): closed windows hang on what is ahead of a tick alone (lists alone).
-/
import Derived.Test.YtjdbjnpomndfjaaEdgGr
import Derived.Test.YtjdbjnpomndfjaaHopL
import Derived.Test.YtjdbjnpomndfjaaSnaS
set_option linter.unusedVariables false
set_option linter.unusedSimpArgs false
namespace Go.Proofs.Ytjdbjnpomndfjaa
open Go.RowKit
theorem mayJ_jmps {l : List Ed} (hm : mayE l = true) (r : List Vl) : mayJ (jmps l r) = true := by
  by_cases h : jmps l r = []
  · rw [h]; rfl
  · have h1 := (mem_rows (mayE_rise hm).1 r).2 h
    refine (mayE_iff.1 hm).2.2 (r, jmps l r) ?_
    rw [grp_eq (mayE_rise hm)]
    exact List.mem_map.2 ⟨r, h1, rfl⟩
theorem ahead_low {l m : List Ed} {T : Int} (h1 : mpE (ahOp T) l = 0) (h2 : mpE (ahOp T) m = 0) (he : mpR (ahOp T) l = mpR (ahOp T) m) (hT : T ≤ 1125899906842624) (r : List Vl) (u : Int) (hu : u < T) : jv (jmps l r) u = jv (jmps m r) u := by
  have n1 : (ahOp T []).1 = 0 := by rw [ahOp_nil]
  have n2 : (ahOp T []).2 = [] := by rw [ahOp_nil]
  have key : ∀ {l : List Ed}, mpE (ahOp T) l = 0 → jv (jmps (mpR (ahOp T) l) r) u = jv (jmps l r) u := by
    intro l h
    obtain ⟨a, b, c⟩ := mp_zero h
    have hv := (mayE_rise a).1
    have e0 := op_rows n1 hv b r
    have hj := mayJ_jmps a r
    rw [c, jmps_each n2 hv]
    show jv (ahR (jmps l r) T) u = _
    unfold ahR
    rw [if_pos (show ahE (jmps l r) T = 0 from e0), ahL_val hj T u (by omega)]
    unfold ahV
    rw [if_pos hu]
  rw [← key h1, ← key h2, he]
theorem hrows_rows {s hp f R t : Int} {l : List Ed} (hm : mayE l = true) : hrows s hp f R (grp l) t = ((rowsL l).filter fun r => decide (t ∈ ofL s hp R (jmps l r) f)).map fun r => (r, copN (jmps l r) t (hend s t)) := by
  unfold hrows
  rw [grp_eq (mayE_rise hm)]
  unfold byRows
  rw [List.filter_map, List.map_map]
  rfl
theorem ofL_row {s hp f R t : Int} {l : List Ed} (hm : mayE l = true) {r : List Vl} (h : t ∈ ofL s hp R (jmps l r) f) : r ∈ rowsL l := by
  rw [mem_rows (mayE_rise hm).1]
  intro e
  rw [e] at h
  simp [ofL, ofSt] at h
section
variable {s hp f R T : Int} {l m : List Ed}
theorem hrows_low (hs : 1 ≤ s) (hh : 1 ≤ hp) (hR : R ≤ 1125899906842624) (hl : mayE l = true) (hm : mayE m = true) {t : Int} (hT : hend s t ≤ T) (h : ∀ r u, u < T → jv (jmps l r) u = jv (jmps m r) u) : hrows s hp f R (grp l) t = hrows s hp f R (grp m) t := by
  rw [hrows_rows hl, hrows_rows hm]
  have hmem : ∀ r, t ∈ ofL s hp R (jmps l r) f ↔ t ∈ ofL s hp R (jmps m r) f := fun r => ofL_low hs hh hR (mayJ_jmps hl r) (mayJ_jmps hm r) hT (h r)
  have e : ((rowsL l).filter fun r => decide (t ∈ ofL s hp R (jmps l r) f)) = (rowsL m).filter fun r => decide (t ∈ ofL s hp R (jmps m r) f) := by
    refine asc_unique rlt_irr rlt_asym _ _ ((rowsL_ok (mayE_rise hl).1).1.sublist List.filter_sublist) ((rowsL_ok (mayE_rise hm).1).1.sublist List.filter_sublist) fun r => ?_
    simp only [List.mem_filter, decide_eq_true_eq]
    exact ⟨fun ⟨_, b⟩ => ⟨ofL_row hm ((hmem r).1 b), (hmem r).1 b⟩, fun ⟨_, b⟩ => ⟨ofL_row hl ((hmem r).2 b), (hmem r).2 b⟩⟩
  rw [e]
  refine List.map_congr_left fun r hr => ?_
  simp only [List.mem_filter, decide_eq_true_eq] at hr
  have h1 := (ofL_val hs hh hR (mayJ_jmps hm r)).1 hr.2
  rw [copN_low (mayJ_jmps hl r) (mayJ_jmps hm r) (hend_in hT (by omega) (by omega)) hT (h r)]
theorem hkeys_low (hs : 1 ≤ s) (hh : 1 ≤ hp) (hR : R ≤ 1125899906842624) (hl : mayE l = true) (hm : mayE m = true) (h : ∀ r u, u < T → jv (jmps l r) u = jv (jmps m r) u) : ((hkeys s hp f R (grp l)).filter fun t => decide (hend s t ≤ T)) = (hkeys s hp f R (grp m)).filter fun t => decide (hend s t ≤ T) := by
  refine asc_unique (R := (· < · : Int → Int → Prop)) (fun a h => by omega) (fun a b h1 h2 => by omega) _ _ ((hkeys_asc s hp f R (grp l)).sublist List.filter_sublist) ((hkeys_asc s hp f R (grp m)).sublist List.filter_sublist) fun t => ?_
  simp only [List.mem_filter, decide_eq_true_eq]
  constructor
  · rintro ⟨a, b⟩
    exact ⟨hrows_none.1 (by rw [← hrows_low hs hh hR hl hm b h]; exact hrows_none.2 a), b⟩
  · rintro ⟨a, b⟩
    exact ⟨hrows_none.1 (by rw [hrows_low hs hh hR hl hm b h]; exact hrows_none.2 a), b⟩
/-- The closed windows of two tables that are the same ahead of the tick. -/
theorem hpT_low (hs : 1 ≤ s) (hh : 1 ≤ hp) (hR : R ≤ 1125899906842624) (hl : mayE l = true) (hm : mayE m = true) (h : ∀ r u, u < T → jv (jmps l r) u = jv (jmps m r) u) : ((hpT s hp f R l).filter fun p => decide (p.1.2 ≤ T)) = (hpT s hp f R m).filter fun p => decide (p.1.2 ≤ T) := by
  unfold hpT
  rw [List.filter_map, List.filter_map]
  show List.map _ ((hkeys s hp f R (grp l)).filter fun t => decide (hend s t ≤ T)) = List.map _ ((hkeys s hp f R (grp m)).filter fun t => decide (hend s t ≤ T))
  rw [hkeys_low hs hh hR hl hm h]
  refine List.map_congr_left fun t ht => ?_
  rw [hrows_low hs hh hR hl hm (by simpa using (List.mem_filter.1 ht).2) h]
end
end Go.Proofs.Ytjdbjnpomndfjaa
