/-
  A helper of ours: no claim of its own. Layer 30 (window): windows of all kinds, and what hangs on one side of a tick (lists alone).
-/
import Derived.Test.YtljkneajdndgjaaGreatCouN
import Derived.Test.YtljkneajdndgjaaGreatEdgM
import Derived.Test.YtljkneajdndgjaaGreatHopL
set_option linter.unusedVariables false
set_option linter.unusedSimpArgs false
namespace Go.Proofs.YtljkneajdndgjaaGreat
open Go.RowKit
def wmay (k s h : Int) : Bool := if k = 1 then decide (s = 0) && decide (h = 0) else if k = 2 then hlen s && hlen h else if k = 3 then (decide (1 ≤ s) && decide (s ≤ 64)) && decide (h = 0) else false
def wrE (k s h : Int) (l : List Ed) (t : Int) : Int := if wmay k s h = true ∧ mayE l = true then (if tabE l = true then (if stick t = true then 0 else 13) else 20) else 2
def wcV (k s h : Int) (l : List Ed) (t : Int) : Int := if wrE k s h l t = 0 then (if k = 2 then min t (hopV s h t) else if k = 3 then coV l s t else t) else 0
def frV (l : List Ed) (t : Int) : Int := l.foldl (fun t e => if 0 < e.2.2 then max t (e.2.1 + 1) else t) t
def wpE (k s h : Int) (l : List Ed) (f t : Int) : Int := if wrE k s h l t = 0 then (if k = 2 then hpE l s h f (frV l t) else if k = 3 then cpE l s f else snE l f) else wrE k s h l t
def wpL (k s h : Int) (l : List Ed) (f t : Int) : List Pt := if wrE k s h l t = 0 then (if k = 2 then hpL l s h f (frV l t) else if k = 3 then cpL l s f else snL l f) else []
theorem wmay_kind {k s h : Int} (e : wmay k s h = true) : (k = 1 ∧ s = 0 ∧ h = 0) ∨ (k = 2 ∧ hlen s = true ∧ hlen h = true) ∨ (k = 3 ∧ (1 ≤ s ∧ s ≤ 64) ∧ h = 0) := by
  unfold wmay at e
  split at e
  · simp at e; exact .inl ⟨by assumption, e.1, e.2⟩
  · split at e
    · simp at e; exact .inr (.inl ⟨by assumption, e.1, e.2⟩)
    · split at e
      · simp at e; exact .inr (.inr ⟨by assumption, ⟨e.1.1, e.1.2⟩, e.2⟩)
      · cases e
theorem wrE_zero {k s h : Int} {l : List Ed} {t : Int} (e : wrE k s h l t = 0) : wmay k s h = true ∧ mayE l = true ∧ tabE l = true ∧ (0 ≤ t ∧ t ≤ 1125899906842624) := by
  unfold wrE at e
  split at e
  case isFalse => exact absurd e (by decide)
  rename_i h1
  split at e
  case isFalse => exact absurd e (by decide)
  rename_i h2
  split at e
  case isFalse => exact absurd e (by decide)
  rename_i h3
  exact ⟨h1.1, h1.2, h2, stick_iff.1 h3⟩
theorem wrE_of {k s h : Int} {l : List Ed} {t : Int} (h1 : wmay k s h = true) (h2 : mayE l = true) (h3 : tabE l = true) (h4 : 0 ≤ t ∧ t ≤ 1125899906842624) : wrE k s h l t = 0 := by
  unfold wrE
  rw [if_pos ⟨h1, h2⟩, if_pos h3, if_pos (stick_iff.2 h4)]
theorem hopE_of {s h t : Int} (h1 : hlen s = true) (h2 : hlen h = true) (h4 : 0 ≤ t ∧ t ≤ 1125899906842624) : hopE s h t = 0 := by
  unfold hopE
  rw [if_pos ⟨h1, h2⟩, if_pos (htick_iff.2 h4)]
theorem ssE_of {l : List Ed} {n t : Int} (h1 : 1 ≤ n ∧ n ≤ 64) (h2 : mayE l = true) (h3 : tabE l = true) (h4 : 0 ≤ t ∧ t ≤ 1125899906842624) : ssE l n t = 0 := by
  unfold ssE
  rw [if_pos h1, if_pos (show csE l = 0 by unfold csE; rw [if_pos h2, if_pos h3]), if_pos h4]
theorem coV_end {l : List Ed} {n : Int} (h : ssE l n 1125899906842624 = 0) : coV l n 1125899906842624 = 1125899906842624 := by
  unfold coV
  rw [if_pos h, if_pos rfl]
theorem wcV_in {k s h : Int} {l : List Ed} {t : Int} (e : wrE k s h l t = 0) : 0 ≤ wcV k s h l t ∧ wcV k s h l t ≤ t := by
  obtain ⟨h1, h2, h3, h4, h5⟩ := wrE_zero e
  unfold wcV
  rw [if_pos e]
  rcases wmay_kind h1 with ⟨rfl, -, -⟩ | ⟨rfl, a, b⟩ | ⟨rfl, a, -⟩
  · simp; omega
  · rw [if_pos rfl]
    have := (hopV_in (hopE_of a b ⟨h4, h5⟩)).2.1
    omega
  · rw [if_neg (by decide), if_pos rfl]
    have hs := ssE_of a h2 h3 ⟨h4, h5⟩
    by_cases c : t = 1125899906842624
    · subst c; rw [coV_end hs]; omega
    · exact coV_le hs (by omega)
/-- Windows ahead of a tick, and as far as it. -/
def wahP (ps : List Pt) (t : Int) : List Pt := (ps.filter fun p => decide (p.1.1 < t)).map fun p => ((p.1.1, if t < p.1.2 then t else p.1.2), p.2)
def cuP (ps : List (Int × Int)) (t : Int) : List (Int × Int) := (ps.filter fun p => decide (p.1 < t)).map fun p => (p.1, if t < p.2 then t else p.2)
def spT (t : Int) : List Int → List (Int × Int)
  | [] => []
  | x :: r => (x, r.headD t) :: spT t r
theorem cuP_spC {t : Int} (ht : t ≤ 1125899906842624) : ∀ c : List Int, c.Pairwise (· < ·) → cuP (spC c) t = spT t (c.filter fun x => decide (x < t))
  | [], _ => rfl
  | x :: r, h => by
    obtain ⟨h1, h2⟩ := List.pairwise_cons.1 h
    have ih := cuP_spC ht r h2
    unfold cuP at ih ⊢
    rw [spC, List.filter_cons, List.filter_cons]
    by_cases hx : x < t
    · rw [if_pos (by simpa using hx), if_pos (by simpa using hx), List.map_cons, ih, spT]
      congr 2
      cases r with
      | nil =>
        show (if t < 1125899906842624 then t else 1125899906842624) = t
        split <;> omega
      | cons y r =>
        show (if t < y then t else y) = (List.filter (fun x => decide (x < t)) (y :: r)).headD t
        by_cases hy : y < t
        · rw [List.filter_cons_of_pos (by simpa using hy)]
          show _ = y
          rw [if_neg (by omega)]
        · have h0 : r.filter (fun x => decide (x < t)) = [] := List.filter_eq_nil_iff.2 fun z hz => by have := (List.pairwise_cons.1 h2).1 z hz; simp; omega
          rw [List.filter_cons_of_neg (by simpa using hy), h0]
          show _ = t
          split <;> omega
    · have h0 : r.filter (fun x => decide (x < t)) = [] := List.filter_eq_nil_iff.2 fun z hz => by have := h1 z hz; simp; omega
      rw [if_neg (by simpa using hx), if_neg (by simpa using hx), ih]
theorem wahP_paG (G : List Gp) (ps : List (Int × Int)) (t : Int) : wahP (paG G ps) t = paG G (cuP ps t) := by
  unfold wahP paG cuP
  rw [List.filter_map, List.map_map, List.filter_map, List.map_map, List.filter_filter, List.filter_filter]
  refine congr (congrArg _ ?_) ?_
  · funext p; rfl
  · refine List.filter_congr fun p _ => ?_
    exact Bool.and_comm _ _
theorem paG_same {G H : List Gp} {ps : List (Int × Int)} (h : ∀ p ∈ ps, alG G p.1 = alG H p.1) : paG G ps = paG H ps := by
  unfold paG
  rw [List.filter_congr (fun p hp => by rw [h p hp])]
  exact List.map_congr_left fun p hp => by rw [h p (List.mem_filter.1 hp).1]
theorem spT_fst (t : Int) : ∀ c : List Int, (spT t c).map Prod.fst = c
  | [] => rfl
  | x :: r => by rw [spT, List.map_cons, spT_fst t r]
theorem spC_fst : ∀ c : List Int, (spC c).map Prod.fst = c
  | [] => rfl
  | x :: r => by rw [spC, List.map_cons, spC_fst r]
theorem alG_rows {l : List Ed} (hm : mayE l = true) (x : Int) : alG (grp l) x = ((rowsL l).filter fun r => decide (0 < jv (jmps l r) x)).map fun r => (r, jv (jmps l r) x) := by
  unfold alG
  rw [grp_eq (mayE_rise hm)]
  unfold byRows
  rw [List.filter_map, List.map_map, List.filter_congr (q := fun r => decide (0 < jv (jmps l r) x)) (fun r _ => by simp only [Function.comp]; rw [atV_of (mayJ_jmps hm r)])]
  exact List.map_congr_left fun r _ => by simp only [Function.comp]; rw [atV_of (mayJ_jmps hm r)]
theorem jv_row {l : List Ed} (hm : mayE l = true) {r : List Vl} {x : Int} (h : 0 < jv (jmps l r) x) : r ∈ rowsL l := by
  rw [mem_rows (mayE_rise hm).1]
  intro e
  rw [e] at h
  simp [jv] at h
theorem at_jmps (l : List Ed) (x : Int) : (∃ e ∈ l, e.2.1 = x) ↔ ∃ r, ∃ j ∈ jmps l r, j.1 = x := by
  unfold jmps
  constructor
  · rintro ⟨e, he, rfl⟩
    exact ⟨e.1, e.2, List.mem_map.2 ⟨e, List.mem_filter.2 ⟨he, by simp⟩, rfl⟩, rfl⟩
  · rintro ⟨r, j, hj, rfl⟩
    obtain ⟨e, he, rfl⟩ := List.mem_map.1 hj
    exact ⟨e, (List.mem_filter.1 he).1, rfl⟩
section
variable {l m : List Ed} {T : Int}
theorem alG_eq (hl : mayE l = true) (hm : mayE m = true) {x : Int} (h : ∀ r, jv (jmps l r) x = jv (jmps m r) x) : alG (grp l) x = alG (grp m) x := by
  rw [alG_rows hl, alG_rows hm]
  have e : ((rowsL l).filter fun r => decide (0 < jv (jmps l r) x)) = (rowsL m).filter fun r => decide (0 < jv (jmps m r) x) := by
    refine asc_unique rlt_irr rlt_asym _ _ ((rowsL_ok (mayE_rise hl).1).1.sublist List.filter_sublist) ((rowsL_ok (mayE_rise hm).1).1.sublist List.filter_sublist) fun r => ?_
    simp only [List.mem_filter, decide_eq_true_eq]
    exact ⟨fun ⟨_, b⟩ => ⟨jv_row hm (by rw [← h r]; exact b), by rw [← h r]; exact b⟩, fun ⟨_, b⟩ => ⟨jv_row hl (by rw [h r]; exact b), by rw [h r]; exact b⟩⟩
  rw [e]
  exact List.map_congr_left fun r _ => by rw [h r]
theorem cutP_low (hl : mayE l = true) (hm : mayE m = true) (h : ∀ r u, u < T → jv (jmps l r) u = jv (jmps m r) u) (f : Int) : (cutP l f).filter (fun x => decide (x < T)) = (cutP m f).filter (fun x => decide (x < T)) := by
  refine asc_unique (R := (· < · : Int → Int → Prop)) (fun a h => by omega) (fun a b h1 h2 => by omega) _ _ ((cutP_asc l f).sublist List.filter_sublist) ((cutP_asc m f).sublist List.filter_sublist) fun x => ?_
  simp only [List.mem_filter, decide_eq_true_eq, cutP_mem, at_jmps]
  have key : ∀ {l m : List Ed}, mayE l = true → mayE m = true → (∀ r u, u < T → jv (jmps l r) u = jv (jmps m r) u) → ∀ x, x < T → (∃ r, ∃ j ∈ jmps l r, j.1 = x) → ∃ r, ∃ j ∈ jmps m r, j.1 = x := by
    rintro l m hl hm h x hx ⟨r, j, hj, rfl⟩
    have h1 : j ∈ (jmps l r).filter fun j => decide (j.1 < T) := List.mem_filter.2 ⟨hj, by simpa using hx⟩
    rw [low_eq (mayJ_canon (mayJ_jmps hl r)) (mayJ_canon (mayJ_jmps hm r)) (h r)] at h1
    exact ⟨r, j, (List.mem_filter.1 h1).1, rfl⟩
  constructor
  · rintro ⟨h1 | ⟨h1, h2⟩, h3⟩
    · exact ⟨.inl h1, h3⟩
    · exact ⟨.inr ⟨h1, key hl hm h x h3 h2⟩, h3⟩
  · rintro ⟨h1 | ⟨h1, h2⟩, h3⟩
    · exact ⟨.inl h1, h3⟩
    · exact ⟨.inr ⟨h1, key hm hl (fun r u hu => (h r u hu).symm) x h3 h2⟩, h3⟩
theorem snT_low (hl : mayE l = true) (hm : mayE m = true) (hlt : tabE l = true) (hmt : tabE m = true) (hT : T < 1125899906842624) (h : ∀ r u, u < T → jv (jmps l r) u = jv (jmps m r) u) : wahP (snT l 0) T = wahP (snT m 0) T := by
  have e : ∀ {l : List Ed}, mayE l = true → tabE l = true → cuL l 0 = cutP l 0 := fun {l} a b => by
    unfold cuL
    rw [if_pos (cuE_zero.2 ⟨a, b, by decide⟩), if_neg (by decide)]
  unfold snT
  rw [e hl hlt, e hm hmt, wahP_paG, wahP_paG, cuP_spC (by omega) _ (cutP_asc l 0), cuP_spC (by omega) _ (cutP_asc m 0), cutP_low hl hm h 0]
  refine paG_same fun p hp => alG_eq hl hm fun r => h r _ ?_
  have : p.1 ∈ (spT T ((cutP m 0).filter fun x => decide (x < T))).map Prod.fst := List.mem_map.2 ⟨p, hp, rfl⟩
  rw [spT_fst] at this
  simpa using (List.mem_filter.1 this).2
/-- A window that begins ahead of the first open one is closed. -/
theorem hop_closed {s h t x : Int} (hh : hlen h = true) (ht : t < 1125899906842624) (h0 : 0 ≤ t) (hs : hlen s = true) (hx : Mul h x) (hxt : x < t) (hv : x < hopV s h t) : hend s x ≤ t := by
  have e : hopV s h t = hbeg h (t - s + 1) := by
    unfold hopV
    rw [if_pos ⟨hs, hh, htick_iff.2 ⟨h0, by omega⟩⟩, if_neg (by omega)]
  rw [e] at hv
  have hh1 := (hlen_iff.1 hh).1
  have h3 : ¬ t - s + 1 ≤ x := fun c => by
    have h4 := (hbeg_mem (h := h) (x := t - s + 1) (e := x + 1) (t := x) hh1 (by omega)).2 ⟨hx, c, by omega⟩
    obtain ⟨i, hi, -⟩ := (hT_mem hh1).1 h4
    have : 0 ≤ (i : Int) * h := Int.mul_nonneg (by omega) (by omega)
    omega
  unfold hend
  split <;> omega
theorem ofL_low2 {s hp r1 r2 f t : Int} {J K : List Jp} (hs : 1 ≤ s) (hh : 1 ≤ hp) (h1 : r1 ≤ 1125899906842624) (h2 : r2 ≤ 1125899906842624) (hJ : mayJ J = true) (hK : mayJ K = true) (hT : hend s t ≤ T) (ht1 : t < r1) (ht2 : t < r2) (h : ∀ u, u < T → jv J u = jv K u) : t ∈ ofL s hp r1 J f ↔ t ∈ ofL s hp r2 K f := by
  rw [ofL_val hs hh h1 hJ, ofL_val hs hh h2 hK]
  constructor <;> rintro ⟨a, b, c, u, q1, q2, q3, q4⟩
  · exact ⟨a, b, ht2, u, q1, q2, q3, by rw [← h u (hend_in hT q2 q3)]; exact q4⟩
  · exact ⟨a, b, ht1, u, q1, q2, q3, by rw [h u (hend_in hT q2 q3)]; exact q4⟩
theorem hrows_low2 {s hp f r1 r2 t : Int} (hs : 1 ≤ s) (hh : 1 ≤ hp) (h1 : r1 ≤ 1125899906842624) (h2 : r2 ≤ 1125899906842624) (hl : mayE l = true) (hm : mayE m = true) (hT : hend s t ≤ T) (ht : t < T) (ht1 : t < r1) (ht2 : t < r2) (h : ∀ r u, u < T → jv (jmps l r) u = jv (jmps m r) u) : hrows s hp f r1 (grp l) t = hrows s hp f r2 (grp m) t := by
  rw [hrows_rows hl, hrows_rows hm]
  have hmem : ∀ r, t ∈ ofL s hp r1 (jmps l r) f ↔ t ∈ ofL s hp r2 (jmps m r) f := fun r => ofL_low2 hs hh h1 h2 (mayJ_jmps hl r) (mayJ_jmps hm r) hT ht1 ht2 (h r)
  have e : ((rowsL l).filter fun r => decide (t ∈ ofL s hp r1 (jmps l r) f)) = (rowsL m).filter fun r => decide (t ∈ ofL s hp r2 (jmps m r) f) := by
    refine asc_unique rlt_irr rlt_asym _ _ ((rowsL_ok (mayE_rise hl).1).1.sublist List.filter_sublist) ((rowsL_ok (mayE_rise hm).1).1.sublist List.filter_sublist) fun r => ?_
    simp only [List.mem_filter, decide_eq_true_eq]
    exact ⟨fun ⟨_, b⟩ => ⟨ofL_row hm ((hmem r).1 b), (hmem r).1 b⟩, fun ⟨_, b⟩ => ⟨ofL_row hl ((hmem r).2 b), (hmem r).2 b⟩⟩
  rw [e]
  refine List.map_congr_left fun r hr => ?_
  rw [copN_low (mayJ_jmps hl r) (mayJ_jmps hm r) ht hT (h r)]
theorem hkeys_mul {s hp f r t : Int} (hs : 1 ≤ s) (hh : 1 ≤ hp) (h1 : r ≤ 1125899906842624) (hl : mayE l = true) (ht : t ∈ hkeys s hp f r (grp l)) : Mul hp t ∧ f ≤ t ∧ t < r := by
  obtain ⟨g, hg, hx⟩ := hkeys_mem.1 ht
  obtain ⟨a, b, c, -⟩ := (ofL_val hs hh h1 ((mayE_iff.1 hl).2.2 g hg)).1 hx
  exact ⟨a, b, c⟩
theorem hpT_low2 {s hp r1 r2 : Int} (hs : hlen s = true) (hh : hlen hp = true) (h1 : r1 ≤ 1125899906842624) (h2 : r2 ≤ 1125899906842624) (hT1 : T ≤ r1) (hT2 : T ≤ r2) (h0 : 0 ≤ T) (hT : T < 1125899906842624) (hl : mayE l = true) (hm : mayE m = true) (h : ∀ r u, u < T → jv (jmps l r) u = jv (jmps m r) u) : wahP (hpT s hp 0 r1 l) (min T (hopV s hp T)) = wahP (hpT s hp 0 r2 m) (min T (hopV s hp T)) := by
  have hs1 := (hlen_iff.1 hs).1
  have hh1 := (hlen_iff.1 hh).1
  have hcl : ∀ x, Mul hp x → x < min T (hopV s hp T) → hend s x ≤ T := fun x hx hv => hop_closed hh hT h0 hs hx (by omega) (by omega)
  have hk : (hkeys s hp 0 r1 (grp l)).filter (fun x => decide (x < min T (hopV s hp T))) = (hkeys s hp 0 r2 (grp m)).filter fun x => decide (x < min T (hopV s hp T)) := by
    refine asc_unique (R := (· < · : Int → Int → Prop)) (fun a h => by omega) (fun a b h1 h2 => by omega) _ _ ((hkeys_asc _ _ _ _ _).sublist List.filter_sublist) ((hkeys_asc _ _ _ _ _).sublist List.filter_sublist) fun x => ?_
    simp only [List.mem_filter, decide_eq_true_eq]
    constructor
    · rintro ⟨a, b⟩
      obtain ⟨c, d, e⟩ := hkeys_mul hs1 hh1 h1 hl a
      exact ⟨hrows_none.1 (by rw [← hrows_low2 hs1 hh1 h1 h2 hl hm (hcl x c b) (by omega) (by omega) (by omega) h]; exact hrows_none.2 a), b⟩
    · rintro ⟨a, b⟩
      obtain ⟨c, d, e⟩ := hkeys_mul hs1 hh1 h2 hm a
      exact ⟨hrows_none.1 (by rw [hrows_low2 hs1 hh1 h1 h2 hl hm (hcl x c b) (by omega) (by omega) (by omega) h]; exact hrows_none.2 a), b⟩
  unfold wahP hpT
  rw [List.filter_map, List.filter_map, List.map_map, List.map_map]
  show List.map _ ((hkeys s hp 0 r1 (grp l)).filter fun x => decide (x < min T (hopV s hp T))) = List.map _ ((hkeys s hp 0 r2 (grp m)).filter fun x => decide (x < min T (hopV s hp T)))
  rw [hk]
  refine List.map_congr_left fun x hx => ?_
  obtain ⟨a, b⟩ := List.mem_filter.1 hx
  have b : x < min T (hopV s hp T) := by simpa using b
  obtain ⟨c, d, e⟩ := hkeys_mul hs1 hh1 h2 hm a
  simp only [Function.comp]
  rw [hrows_low2 hs1 hh1 h1 h2 hl hm (hcl x c b) (by omega) (by omega) (by omega) h]
end
/-- The tick behind the last increase. -/
theorem frV_le (z : Int) : ∀ (l : List Ed) (t : Int), frV l t ≤ z ↔ t ≤ z ∧ ∀ e ∈ l, 0 < e.2.2 → e.2.1 + 1 ≤ z
  | [], t => by simp [frV]
  | e :: l, t => by
    have ih := frV_le z l (if 0 < e.2.2 then max t (e.2.1 + 1) else t)
    have e1 : frV (e :: l) t = frV l (if 0 < e.2.2 then max t (e.2.1 + 1) else t) := by simp [frV]
    rw [e1, ih]
    constructor
    · rintro ⟨h1, h2⟩
      refine ⟨by split at h1 <;> omega, fun x hx hp => ?_⟩
      rcases List.mem_cons.1 hx with rfl | hx
      · rw [if_pos hp] at h1; omega
      · exact h2 x hx hp
    · rintro ⟨h1, h2⟩
      refine ⟨?_, fun x hx hp => h2 x (List.mem_cons_of_mem _ hx) hp⟩
      split
      · rename_i hp
        have := h2 e (by simp) hp
        omega
      · exact h1
theorem frV_ge (l : List Ed) (t : Int) : t ≤ frV l t := ((frV_le _ l t).1 (Int.le_refl _)).1
theorem frV_in {l : List Ed} (hm : mayE l = true) {t : Int} (ht : t ≤ 1125899906842624) : frV l t ≤ 1125899906842624 := by
  refine (frV_le _ l t).2 ⟨ht, fun e he _ => ?_⟩
  have h1 : e.2 ∈ jmps l e.1 := by unfold jmps; exact List.mem_map.2 ⟨e, List.mem_filter.2 ⟨he, by simp⟩, rfl⟩
  have := (mayJ_at (mayJ_jmps hm e.1) e.2 h1).2
  omega
theorem frV_rest {l : List Ed} {T t : Int} (h0 : 0 ≤ T) (hT : T < 1125899906842624) (hTt : T ≤ t) (h : mpE (reOp T) l = 0) : frV (mpR (reOp T) l) t = frV l t := by
  have hinc := rest_inc h0 hT h
  have key : ∀ {l : List Ed} {e : Ed}, e ∈ l → e.2 ∈ jmps l e.1 := fun {l e} he => by unfold jmps; exact List.mem_map.2 ⟨e, List.mem_filter.2 ⟨he, by simp⟩, rfl⟩
  have yek : ∀ {l : List Ed} {r : List Vl} {j : Jp}, j ∈ jmps l r → (r, j) ∈ l := fun {l r j} hj => by
    unfold jmps at hj
    obtain ⟨e, he, rfl⟩ := List.mem_map.1 hj
    obtain ⟨h1, h2⟩ := List.mem_filter.1 he
    simp at h2
    subst h2
    exact h1
  refine Int.le_antisymm ((frV_le _ _ t).2 ⟨frV_ge l t, fun e he hp => ?_⟩) ((frV_le _ _ t).2 ⟨frV_ge _ t, fun e he hp => ?_⟩)
  · by_cases c : -1 < e.2.1
    · have h1 : e.2 ∈ incL (jmps (mpR (reOp T) l) e.1) := by unfold incL; exact List.mem_filter.2 ⟨key he, by simp; omega⟩
      rw [hinc] at h1
      have h2 := (List.mem_filter.1 h1).1
      unfold incL at h2
      have h3 := yek (List.mem_filter.1 h2).1
      exact ((frV_le _ l t).1 (Int.le_refl _)).2 _ h3 hp
    · have := frV_ge l t
      omega
  · by_cases c : T ≤ e.2.1
    · have h1 : e.2 ∈ (incL (jmps l e.1)).filter fun j => decide (T ≤ j.1) := by
        refine List.mem_filter.2 ⟨?_, by simpa using c⟩
        unfold incL
        exact List.mem_filter.2 ⟨key he, by simp; omega⟩
      rw [← hinc] at h1
      unfold incL at h1
      have h3 := yek (List.mem_filter.1 h1).1
      exact ((frV_le _ _ t).1 (Int.le_refl _)).2 _ h3 hp
    · have := frV_ge (mpR (reOp T) l) t
      omega
section
variable {k s h : Int} {l m : List Ed} {t u : Int}
theorem wcV_low (h1 : wrE k s h l t = 0) (h2 : wrE k s h m t = 0) (ht : t < 1125899906842624) (hv : ∀ r u, u < t → jv (jmps l r) u = jv (jmps m r) u) : wcV k s h l t = wcV k s h m t := by
  obtain ⟨a1, a2, a3, a4⟩ := wrE_zero h1
  obtain ⟨-, b2, b3, -⟩ := wrE_zero h2
  unfold wcV
  rw [if_pos h1, if_pos h2]
  rcases wmay_kind a1 with ⟨rfl, -, -⟩ | ⟨rfl, -, -⟩ | ⟨rfl, c, -⟩
  · rfl
  · rfl
  · simp only [show ¬ (3 : Int) = 2 by decide, if_false, if_true]
    exact coV_low (ssE_of c a2 a3 a4) (ssE_of c b2 b3 a4) ht hv
theorem wpL_low (h1 : wpE k s h l 0 t = 0) (h2 : wpE k s h m 0 t = 0) (g1 : wrE k s h l t = 0) (g2 : wrE k s h m t = 0) (ht : t < 1125899906842624) (hv : ∀ r u, u < t → jv (jmps l r) u = jv (jmps m r) u) : wahP (wpL k s h l 0 t) (wcV k s h l t) = wahP (wpL k s h m 0 t) (wcV k s h m t) := by
  rw [← wcV_low g1 g2 ht hv]
  obtain ⟨a1, a2, a3, a4, a5⟩ := wrE_zero g1
  obtain ⟨-, b2, b3, -⟩ := wrE_zero g2
  unfold wpE at h1 h2
  unfold wpL wcV
  rw [if_pos g1] at h1
  rw [if_pos g2] at h2
  simp only [if_pos g1, if_pos g2]
  rcases wmay_kind a1 with ⟨rfl, -, -⟩ | ⟨rfl, c, d⟩ | ⟨rfl, c, -⟩
  · simp only [show ¬ (1 : Int) = 2 by decide, show ¬ (1 : Int) = 3 by decide, if_false] at h1 h2 ⊢
    unfold snL
    rw [if_pos h1, if_pos h2]
    exact snT_low a2 b2 a3 b3 ht hv
  · simp only [if_true] at h1 h2 ⊢
    unfold hpL
    rw [if_pos h1, if_pos h2]
    exact hpT_low2 c d (frV_in a2 a5) (frV_in b2 a5) (frV_ge l t) (frV_ge m t) a4 ht a2 b2 hv
  · simp only [show ¬ (3 : Int) = 2 by decide, if_false, if_true] at h1 h2 ⊢
    unfold cpL
    rw [if_pos h1, if_pos h2]
    have e := (cpT_low (ssE_of c a2 a3 ⟨a4, a5⟩) (ssE_of c b2 b3 ⟨a4, a5⟩) ht hv).1
    rw [← coV_low (ssE_of c a2 a3 ⟨a4, a5⟩) (ssE_of c b2 b3 ⟨a4, a5⟩) ht hv] at e
    unfold wahP
    rw [e]
/-- What is forgotten ahead of the clock. -/
theorem wrest {T : Int} (h1 : wrE k s h l t = 0) (hT : T = wcV k s h l t) (ht : t < 1125899906842624) (h2 : mpE (reOp T) l = 0) : wrE k s h (mpR (reOp T) l) t = 0 ∧ wcV k s h (mpR (reOp T) l) t = T ∧ wpE k s h l T t = wpE k s h (mpR (reOp T) l) T t ∧ wpL k s h l T t = wpL k s h (mpR (reOp T) l) T t := by
  obtain ⟨c0, c1⟩ := wcV_in h1
  rw [← hT] at c0 c1
  have hF : T < 1125899906842624 := by omega
  obtain ⟨a1, a2, a3, a4, a5⟩ := wrE_zero h1
  obtain ⟨b2, b3, b4⟩ := rest_high c0 hF h2
  have b3 := b3 a3
  have g2 : wrE k s h (mpR (reOp T) l) t = 0 := wrE_of a1 b2 b3 ⟨a4, a5⟩
  refine ⟨g2, ?_⟩
  unfold wcV at hT
  unfold wcV wpE wpL
  rw [if_pos h1] at hT
  rw [if_pos h1, if_pos g2, if_pos g2, if_pos h1, if_pos g2]
  rcases wmay_kind a1 with ⟨rfl, -, -⟩ | ⟨rfl, c, d⟩ | ⟨rfl, c, -⟩
  · simp only [show ¬ (1 : Int) = 2 by decide, show ¬ (1 : Int) = 3 by decide, if_false] at hT ⊢
    refine ⟨hT.symm, ?_⟩
    have e1 : cutP l T = cutP (mpR (reOp T) l) T := by
      refine asc_unique (R := (· < · : Int → Int → Prop)) (fun a h => by omega) (fun a b h1 h2 => by omega) _ _ (cutP_asc _ _) (cutP_asc _ _) fun x => ?_
      simp only [cutP_mem, at_jmps]
      have hj : ∀ r, (jmps l r).filter (fun j => decide (T < j.1)) = (jmps (mpR (reOp T) l) r).filter fun j => decide (T < j.1) := fun r => high_eq (mayJ_jmps a2 r) (mayJ_jmps b2 r) fun v hv => (b4 r v hv).symm
      constructor
      · rintro (h | ⟨h, r, j, hj1, rfl⟩)
        · exact .inl h
        · have h3 : j ∈ (jmps l r).filter fun j => decide (T < j.1) := List.mem_filter.2 ⟨hj1, by simpa using h⟩
          rw [hj] at h3
          exact .inr ⟨h, r, j, (List.mem_filter.1 h3).1, rfl⟩
      · rintro (h | ⟨h, r, j, hj1, rfl⟩)
        · exact .inl h
        · have h3 : j ∈ (jmps (mpR (reOp T) l) r).filter fun j => decide (T < j.1) := List.mem_filter.2 ⟨hj1, by simpa using h⟩
          rw [← hj] at h3
          exact .inr ⟨h, r, j, (List.mem_filter.1 h3).1, rfl⟩
    have hst : stick T = true := stick_iff.2 ⟨c0, by omega⟩
    have q1 : cuE l T = 0 := cuE_zero.2 ⟨a2, a3, hst⟩
    have q2 : cuE (mpR (reOp T) l) T = 0 := cuE_zero.2 ⟨b2, b3, hst⟩
    have q3 : cuL l T = cutP l T := by unfold cuL; rw [if_pos q1, if_neg (by omega)]
    have q4 : cuL (mpR (reOp T) l) T = cutP l T := by unfold cuL; rw [if_pos q2, if_neg (by omega), e1]
    have q5 : snT l T = snT (mpR (reOp T) l) T := by
      unfold snT
      rw [q3, q4]
      refine paG_same fun p hp => alG_eq a2 b2 fun r => (b4 r _ ?_).symm
      have : p.1 ∈ (spC (cutP l T)).map Prod.fst := List.mem_map.2 ⟨p, hp, rfl⟩
      rw [spC_fst, cutP_mem] at this
      omega
    have q6 : snE l T = snE (mpR (reOp T) l) T := by unfold snE; rw [if_pos q1, if_pos q2, q5]
    exact ⟨q6, by unfold snL; rw [q6, q5]⟩
  · simp only [if_true] at hT ⊢
    refine ⟨hT.symm, ?_⟩
    rw [frV_rest c0 hF c1 h2]
    exact hpE_high a2 b2 a3 b3 fun r v hv => (b4 r v hv).symm
  · simp only [show ¬ (3 : Int) = 2 by decide, if_false, if_true] at hT ⊢
    have hs := ssE_of c a2 a3 ⟨a4, a5⟩
    refine ⟨rest_coV hs hT hF ht h2, ?_⟩
    exact rest_cp c0 hF h2 (ssE_of c a2 a3 ⟨c0, by omega⟩)
theorem coV_mono {n : Int} (h1 : ssE m n t = 0) (h2 : ssE m n u = 0) (htu : t ≤ u) (ht : t < 1125899906842624) : coV m n t ≤ coV m n u := by
  obtain ⟨-, ⟨hm, -⟩, u0, u1⟩ := ssE_ok h2
  by_cases hu : u = 1125899906842624
  · subst hu
    rw [coV_end h2]
    have := coV_le h1 ht
    omega
  · have hD := csT_asc m
    have hl := sbN_le (csT m) u
    have hc : sbN (csT m) t ≤ sbN (csT m) u := by
      unfold sbN
      exact List.countP_mono_left fun x _ hx => by simp at hx ⊢; omega
    rw [coV_of h1 ht, coV_of h2 (by omega)]
    have hget : ∀ i, (hi : i < (csT m).length) → (csT m).getD i 0 = (csT m)[i] := fun i hi => by rw [List.getD_eq_getElem?_getD, List.getElem?_eq_getElem hi]; rfl
    split
    · rename_i c1
      split
      · rename_i c2
        rw [hget _ (by omega), hget _ (by omega)]
        rcases Nat.lt_or_ge (sbN (csT m) t - (n.toNat - 1)) (sbN (csT m) u - (n.toNat - 1)) with c3 | c3
        · exact Int.le_of_lt (List.pairwise_iff_getElem.1 hD _ _ (by omega) (by omega) c3)
        · have e : sbN (csT m) t - (n.toNat - 1) = sbN (csT m) u - (n.toNat - 1) := by omega
          simp only [e]
          exact Int.le_refl _
      · have := (asc_at (T := t) hD (i := sbN (csT m) t - (n.toNat - 1)) (by omega)).2 (by omega)
        omega
    · rename_i c1
      split
      · rename_i c2
        have h3 := asc_at (T := t) hD (i := sbN (csT m) u - (n.toNat - 1)) (by omega)
        have h4 : ¬ sbN (csT m) u - (n.toNat - 1) < sbN (csT m) t := by omega
        have : ¬ (csT m).getD (sbN (csT m) u - (n.toNat - 1)) 0 < t := fun k => h4 (h3.1 k)
        omega
      · exact htu
theorem wcV_mono (h1 : wrE k s h l t = 0) (h2 : wrE k s h m u = 0) (h3 : mayE m = true) (htu : t ≤ u) (ht : t < 1125899906842624) (hv : ∀ r u, u < t → jv (jmps l r) u = jv (jmps m r) u) : wcV k s h l t ≤ wcV k s h m u := by
  obtain ⟨a1, a2, a3, a4, a5⟩ := wrE_zero h1
  obtain ⟨-, b2, b3, b4, b5⟩ := wrE_zero h2
  rw [wcV_low h1 (wrE_of a1 b2 b3 ⟨a4, a5⟩) ht hv]
  unfold wcV
  rw [if_pos (wrE_of a1 b2 b3 ⟨a4, a5⟩), if_pos h2]
  rcases wmay_kind a1 with ⟨rfl, -, -⟩ | ⟨rfl, c, d⟩ | ⟨rfl, c, -⟩
  · simpa using htu
  · simp only [if_true]
    have := hopV_mono (hopE_of c d ⟨a4, a5⟩) (hopE_of c d ⟨b4, b5⟩) htu
    omega
  · simp only [show ¬ (3 : Int) = 2 by decide, if_false, if_true]
    exact coV_mono (ssE_of c b2 b3 ⟨a4, a5⟩) (ssE_of c b2 b3 ⟨b4, b5⟩) htu ht
end
end Go.Proofs.YtljkneajdndgjaaGreat
