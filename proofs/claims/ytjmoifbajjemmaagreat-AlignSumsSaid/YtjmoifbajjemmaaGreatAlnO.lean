/-
  A helper of ours: no claim of its own. Layer 16 (align): an align by the code and one by the document, side by side.
-/
import Derived.Test.YtjmoifbajjemmaaGreatAlnM
set_option linter.unusedVariables false
set_option linter.unusedSimpArgs false
namespace Go.Proofs.YtjmoifbajjemmaaGreat
open Go.RowKit
theorem nm_lenA (g : List Jp) : (nmOp g).2.length ≤ g.length := by
  have hlen : ∀ (v : Int → Int) (ps : List Int) (was : Int), (tell v ps was).length ≤ ps.length := by
    intro v ps
    induction ps with
    | nil => intro was; simp [tell]
    | cons p r ih =>
      intro was
      rw [tell]
      split
      · have := ih (v p); rw [List.length_cons]; omega
      · have := ih (v p); rw [List.length_cons, List.length_cons]; omega
  have h1 := hlen (jv g) (plc [] (inF g)) 0
  have h2 := plc_length (inF g) [] Asc.nil'
  have h3 : (inF g).length ≤ g.length := List.length_filter_le _ _
  have h4 : (nmL g).length ≤ (plc [] (inF g)).length := h1
  simp only [List.length_nil] at h2
  show (nmR g).length ≤ _
  unfold nmR
  split
  · omega
  · simp
theorem split_lenA (q : List Vl) (X : List Ed) : (jmps X q).length + (X.filter fun e => decide (e.1 ≠ q)).length = X.length := by
  induction X with
  | nil => rfl
  | cons e X ih =>
    rw [jmps_cons, List.filter_cons]
    by_cases h : e.1 = q
    · rw [if_pos h, if_neg (by simpa using h), List.length_cons, List.length_cons]; omega
    · rw [if_neg h, if_pos (by simpa using h), List.length_cons, List.length_cons]; omega
theorem jmps_otherA {q r : List Vl} (h : q ≠ r) (X : List Ed) : jmps (X.filter fun e => decide (e.1 ≠ q)) r = jmps X r := by
  induction X with
  | nil => rfl
  | cons e X ih =>
    rw [List.filter_cons, jmps_cons]
    by_cases h1 : e.1 = q
    · rw [if_neg (by simpa using h1), ih, if_neg (by rw [h1]; exact h)]
    · rw [if_pos (by simpa using h1), jmps_cons, ih]
theorem len_rowsA (F : List Vl → List Jp) : ∀ (rows : List (List Vl)) (X : List Ed), rows.Pairwise rlt → (∀ r ∈ rows, (F r).length ≤ (jmps X r).length) → (rows.flatMap fun q => (F q).map fun j => (q, j)).length ≤ X.length
  | [], X, _, _ => by simp
  | q :: rows, X, h, k => by
    obtain ⟨h1, h2⟩ := List.pairwise_cons.1 h
    have ih := len_rowsA F rows (X.filter fun e => decide (e.1 ≠ q)) h2 fun r hr => by
      rw [jmps_otherA (rlt_ne (h1 r hr))]
      exact k r (by simp [hr])
    have h3 := k q (by simp)
    have h4 := split_lenA q X
    rw [List.flatMap_cons, List.length_append, List.length_map]
    omega
theorem ev_flatA (op : List Jp → Int × List Jp) (E : List Ed) : evL op (byRows E) = (rowsL E).flatMap fun q => ((op (jmps E q)).2).map fun j => (q, j) := by
  unfold evL byRows
  rw [List.flatMap_map]
/-- Edges put together are no more than they were. -/
theorem ne_len (l : List Ed) : (neR l).length ≤ l.length := by
  unfold neR
  split
  · rename_i h
    unfold neE at h
    split at h
    · cases h
    · rename_i h2
      split at h
      · cases h
      · have hv : ∀ e ∈ l, mayR e.1 = true := fun e he => by
          have : l.any badE = false := by simpa using h2
          have h3 := List.any_eq_false.1 this e he
          unfold badE at h3
          simp at h3
          exact h3.1
        unfold eachR
        rw [if_pos h, ev_flatA]
        exact len_rowsA (fun q => (nmOp (jmps l q)).2) _ _ (rowsL_ok hv).1 fun r _ => nm_lenA _
  · simp
theorem ad_len (a b : List Ed) : (adR a b).length ≤ a.length + b.length := by
  unfold adR
  split
  · have := ne_len (a ++ b); rwa [List.length_append] at this
  · simp
theorem held_set : ∀ (X : List Xi) (i : Nat) (p q : Xi), X[i]? = some p → heldN (X.set i q) + p.2.length = heldN X + q.2.length
  | [], i, p, q, h => by simp at h
  | x :: X, 0, p, q, h => by simp at h; subst h; simp [heldN]; omega
  | x :: X, i + 1, p, q, h => by
    have := held_set X i p q (by simpa using h)
    simp only [heldN, List.set_cons_succ, List.map_cons, List.sum_cons] at this ⊢
    omega
theorem held_each {X : List Xi} {p : Xi} (h : p ∈ X) : p.2.length ≤ heldN X := by
  induction X with
  | nil => cases h
  | cons x X ih =>
    simp only [heldN, List.map_cons, List.sum_cons]
    rcases List.mem_cons.1 h with rfl | h
    · omega
    · have := ih h; unfold heldN at this; omega
theorem held_put (X : List Xi) (k : Int) (l : List Ed) : heldN (putX X k l) ≤ heldN X + l.length := by
  unfold putX
  split
  · split
    · rename_i p hp
      have := held_set X k.toNat p (p.1, adR p.2 l) hp
      have h2 := ad_len p.2 l
      simp only at this
      omega
    · omega
  · omega
theorem held_rai (X : List Xi) (k t : Int) : heldN (raiX X k t) = heldN X := by
  unfold raiX
  split
  · split
    · rename_i p hp
      have := held_set X k.toNat p (t, p.2) hp
      simp only at this
      omega
    · rfl
  · rfl
theorem held_open (t : Int) (X : List Xi) : heldN (openX t X) ≤ heldN X := by
  induction X with
  | nil => exact Nat.le_refl _
  | cons p X ih =>
    have := List.length_filter_le (fun e : Ed => !ahT t e.2) p.2
    simp only [heldN, openX, List.map_cons, List.sum_cons] at ih ⊢
    omega
/-- The edges of a script. -/
def eN (l : List Op4) : Nat := (l.map fun p => p.2.2.length).sum
theorem eN_pre (l : List Op4) (k : Nat) : eN (l.take k) ≤ eN l := sum_pre (fun p => p.2.2.length) l k
theorem eN_snoc {l : List Op4} {k : Nat} {p : Op4} (h : l[k]? = some p) : eN (l.take (k + 1)) = eN (l.take k) + p.2.2.length := by
  unfold eN
  rw [take_snoc h]; simp
/-- A small script has few edges. -/
theorem small_eN {l : List Op4} (h : szN l ≤ 60) : l.length ≤ 60 ∧ eN l ≤ 60 := by
  unfold szN at h
  refine ⟨by omega, ?_⟩
  have key : ∀ l : List Op4, (l.map fun p => min p.2.2.length 61).sum ≤ 60 → eN l = (l.map fun p => min p.2.2.length 61).sum := by
    intro l
    induction l with
    | nil => intro _; rfl
    | cons p r ih =>
      intro h
      simp only [List.map_cons, List.sum_cons] at h
      have h2 := ih (by omega)
      unfold eN at h2 ⊢
      simp only [List.map_cons, List.sum_cons]
      rw [h2]
      omega
  rw [key l (by omega)]
  omega
end Go.Proofs.YtjmoifbajjemmaaGreat
set_option linter.unusedVariables false
set_option linter.unusedSimpArgs false
namespace Go.Proofs.YtjmoifbajjemmaaGreat
open Go.RowKit
theorem Oz.ext {w w' : World} {v : Value} {L : List Op4} (h : Oz w v L) (k : Ext w w') : Oz w' v L := ⟨Sl.ext h.1 k, fun p hp => (h.2 p hp).ext k⟩
theorem AL.new {w : World} {S : List Nat} {a ia n : Nat} (h1 : Ob w a 50 [.slice (some ⟨ia, 0, none⟩) n n]) (h2 : Ob w ia 55 (hic (List.replicate n nilI))) (ha : a ∉ S ∧ ia ∈ S) (hne : a ≠ ia) : AL w S a ia (List.replicate n (0, [])) := ⟨_, absX_nil n, IA.new h1 h2 ha hne⟩
theorem RL.new {w : World} {S : List Nat} {r cb hb cc hc n : Nat} (h1 : Ob w r 62 [.slice (some ⟨cb, 0, none⟩) n cc, .slice (some ⟨hb, 0, none⟩) n hc]) (h2 : w.ownsRow 0 3 1 (.slice (some ⟨cb, 0, none⟩) n cc) n (List.replicate n (.int .i64 0))) (h3 : w.ownsRow 0 34 1 (.slice (some ⟨hb, 0, none⟩) n hc) n (List.replicate n (.slice none 0 0))) (hs : r ∉ S ∧ cb ∈ S ∧ hb ∈ S) (hne : cb ≠ hb) : RL w S r cb hb cc hc (List.replicate n (0, [])) := by
  refine ⟨List.replicate n nilI, absX_nil n, ⟨?_, ?_, ?_⟩, fun p hp => ?_, hs, hne⟩
  · rw [List.length_replicate]; exact h1
  · rw [List.length_replicate, List.map_replicate]; exact h2
  · rw [List.length_replicate, List.map_replicate]; exact h3
  · obtain rfl := List.eq_of_mem_replicate hp
    exact ⟨Sl.nil _ _ _, by simp⟩
theorem inv_nil (n : Nat) : InvX (List.replicate n (0, [])) := fun p hp => by
  obtain rfl := List.eq_of_mem_replicate hp
  exact ⟨Int.le_refl _, by decide⟩
theorem held_nil (n : Nat) : heldN (List.replicate n (0, [])) = 0 := by simp [heldN]
/-- While both turn: which of them has turned. -/
def relP (S : List Nat) (a ia r cb hb cc hc i j : Nat) (X Y : List Xi) (Lf : Nat → Bool) (w : World) : Prop :=
  AL w S a ia (if Lf i = true then Y else X) ∧ RL w S r cb hb cc hc (if Lf j = true then Y else X)
section
variable {S : List Nat} {a ia r cb hb cc hc i j : Nat} {X Y : List Xi}
theorem relP_ext {L : Nat → Bool} {x y : World} (h : relP S a ia r cb hb cc hc i j X Y L x) (k : Ext x y) : relP S a ia r cb hb cc hc i j X Y L y := ⟨h.1.ext k, h.2.ext k⟩
theorem relP_keys (L L' : Nat → Bool) (x : World) (hk : ∀ k, k ∈ [i, j] → L k = L' k) (h : relP S a ia r cb hb cc hc i j X Y L x) : relP S a ia r cb hb cc hc i j X Y L' x := by
  unfold relP at *
  rw [← hk i (by simp), ← hk j (by simp)]; exact h
theorem relP_all {L : Nat → Bool} {x : World} (h : relP S a ia r cb hb cc hc i j X Y L x) (hi : L i = true) (hj : L j = true) : AL x S a ia Y ∧ RL x S r cb hb cc hc Y := by
  unfold relP at h
  rw [if_pos hi, if_pos hj] at h; exact h
theorem relP_one {L : Nat → Bool} {x y : World} {T : List Nat} (hne : j ≠ i) (h : relP S a ia r cb hb cc hc i j X Y L x) (hA : AL y S a ia Y) (k : Fr T x y) (hs : ∀ b, b ∈ T → b ∈ S) (h1 : cb ∉ T) (h2 : hb ∉ T) : relP S a ia r cb hb cc hc i j X Y (done L i) y := by
  refine ⟨?_, ?_⟩
  · rw [if_pos (by simp [done])]; exact hA
  · rw [show done L i j = L j by simp [done, hne]]; exact h.2.fr k hs h1 h2
theorem relP_two {L : Nat → Bool} {x y : World} {T : List Nat} (hne : i ≠ j) (h : relP S a ia r cb hb cc hc i j X Y L x) (hR : RL y S r cb hb cc hc Y) (k : Fr T x y) (hs : ∀ b, b ∈ T → b ∈ S) (h1 : ia ∉ T) : relP S a ia r cb hb cc hc i j X Y (done L j) y := by
  refine ⟨?_, ?_⟩
  · rw [show done L j i = L i by simp [done, hne]]; exact h.1.fr k hs h1
  · rw [if_pos (by simp [done])]; exact hR
theorem relP_fst {L : Nat → Bool} {x : World} (h : relP S a ia r cb hb cc hc i j X Y L x) (hi : L i = false) : AL x S a ia X := by
  have := h.1; rw [if_neg (by rw [hi]; decide)] at this; exact this
theorem relP_snd {L : Nat → Bool} {x : World} (h : relP S a ia r cb hb cc hc i j X Y L x) (hj : L j = false) : RL x S r cb hb cc hc X := by
  have := h.2; rw [if_neg (by rw [hj]; decide)] at this; exact this
end
end Go.Proofs.YtjmoifbajjemmaaGreat
