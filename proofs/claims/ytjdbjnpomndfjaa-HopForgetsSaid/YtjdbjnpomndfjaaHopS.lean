/-
  A helper of ours: no claim of its own. Layer 28 (hop): windows and their rows as lists; a map of copies in memory.
-/
import Derived.Test.YtjdbjnpomndfjaaHopO
import Derived.Test.YtjdbjnpomndfjaaRowS
import Derived.Test.YtjdbjnpomndfjaaSnaM
import Derived.Test.YtjdbjnpomndfjaaMapR
set_option linter.unusedVariables false
set_option linter.unusedSimpArgs false
namespace Go.Proofs.Ytjdbjnpomndfjaa
open Go.RowKit
theorem nodup_len {α : Type} [DecidableEq α] : ∀ (l m : List α), l.Nodup → (∀ x ∈ l, x ∈ m) → l.length ≤ m.length
  | [], m, _, _ => Nat.zero_le _
  | x :: l, m, hn, h => by
    obtain ⟨h1, h2⟩ := List.nodup_cons.1 hn
    have hx := h x (by simp)
    have := nodup_len l (m.erase x) h2 fun y hy => (List.mem_erase_of_ne (fun e => h1 (by rw [← e]; exact hy))).2 (h y (by simp [hy]))
    rw [List.length_erase_of_mem hx] at this
    have := List.length_pos_of_mem hx
    rw [List.length_cons]
    omega
theorem hT_asc {h a e : Int} (hh : 1 ≤ h) : (hT h a e).Pairwise (· < ·) := by
  unfold hT
  rw [List.pairwise_map]
  refine List.pairwise_lt_range.imp fun {i j} hij => ?_
  have : (i : Int) * h < (j : Int) * h := Int.mul_lt_mul_of_pos_right (by omega) (by omega)
  omega
/-- What is told rises, and lies behind where one goes on from. -/
theorem ofSt_asc {s hp r : Int} {J : List Jp} {f : Int} (hs : 1 ≤ s) (hh : 1 ≤ hp) (hr : r ≤ 1125899906842624) (hf : 0 ≤ f ∧ f ≤ 1125899906842624) (hJ : ∀ j ∈ J, j.1 < 1125899906842624) : ∀ k, ((ofSt s hp r J f k).2.Pairwise (· < ·) ∧ ∀ t ∈ (ofSt s hp r J f k).2, (f ≤ t ∧ 0 ≤ t ∧ t < 1125899906842624) ∧ t < (ofSt s hp r J f k).1) ∧ f ≤ (ofSt s hp r J f k).1
  | 0 => ⟨⟨List.Pairwise.nil, by intro t ht; cases ht⟩, Int.le_refl _⟩
  | k + 1 => by
    obtain ⟨⟨i1, i2⟩, i3⟩ := ofSt_asc hs hh hr hf hJ k
    have htk := ofSt_tick (s := s) (J := J) hh hr hf k
    cases hj : J[k]? with
    | none => rw [ofSt, hj]; exact ⟨⟨i1, i2⟩, i3⟩
    | some j =>
      by_cases h0 : js (J.take (k + 1)) = 0
      · rw [ofSt_zero hj h0]; exact ⟨⟨i1, i2⟩, i3⟩
      · rw [ofSt_next hj h0]
        simp only
        have hjx := hJ j (List.mem_of_getElem? hj)
        generalize (ofSt s hp r J f k).1 = F at *
        have hlo : ∀ t ∈ ofU s hp r F J k j.1, F ≤ t := fun t ht => by
          have h1 := (hT_in hh ht).1
          unfold hA at h1
          have h2 := hbeg_in (h := hp) (x := if F ≤ j.1 - s + 1 then j.1 - s + 1 else F) hh (by split <;> omega)
          split at h1 <;> split at h2 <;> omega
        have hin : ∀ t ∈ ofU s hp r F J k j.1, 0 ≤ t ∧ t < 1125899906842624 := fun t ht => ofU_in hh hr ht
        have hasc : (ofU s hp r F J k j.1).Pairwise (· < ·) := hT_asc hh
        generalize ofU s hp r F J k j.1 = U at *
        have hlast : ∀ t ∈ U, t < (U.getLast?.map (· + 1)).getD F := fun t ht => by
          cases hl : U.getLast? with
          | none => rw [List.getLast?_eq_none_iff] at hl; rw [hl] at ht; cases ht
          | some z =>
            simp only [Option.map_some, Option.getD_some]
            obtain ⟨V, rfl⟩ := List.getLast?_eq_some_iff.1 hl
            rcases List.mem_append.1 ht with ht | ht
            · have := (List.pairwise_append.1 hasc).2.2 t ht z (by simp); omega
            · obtain rfl := List.mem_singleton.1 ht; omega
        have hge : F ≤ (U.getLast?.map (· + 1)).getD F := by
          cases hl : U.getLast? with
          | none => simp
          | some z => have := hlo z (List.mem_of_getLast? hl); simp only [Option.map_some, Option.getD_some]; omega
        refine ⟨⟨List.pairwise_append.2 ⟨i1, hasc, fun x hx y hy => ?_⟩, fun t ht => ?_⟩, by omega⟩
        · have := (i2 x hx).2; have := hlo y hy; omega
        · rcases List.mem_append.1 ht with ht | ht
          · have := i2 t ht; omega
          · have := hlo t ht; have := hin t ht; have := hlast t ht; omega
theorem ofL_asc {s hp r : Int} {J : List Jp} {f : Int} (hs : 1 ≤ s) (hh : 1 ≤ hp) (hr : r ≤ 1125899906842624) (hf : 0 ≤ f ∧ f ≤ 1125899906842624) (hJ : mayJ J = true) : (ofL s hp r J f).Pairwise (· < ·) ∧ ∀ t ∈ ofL s hp r J f, f ≤ t ∧ 0 ≤ t ∧ t < 1125899906842624 := by
  have := (ofSt_asc (J := J) (f := f) hs hh hr hf (fun j hj => (mayJ_at hJ j hj).2) J.length).1
  exact ⟨this.1, fun t ht => (this.2 t ht).1⟩
theorem asc_nodup {l : List Int} (h : l.Pairwise (· < ·)) : l.Nodup := h.imp fun {a b} hab e => by omega
theorem asc_fresh {l : List Int} (h : l.Pairwise (· < ·)) {m : Nat} {t : Int} (ht : l[m]? = some t) : t ∉ l.take m := by
  intro hm
  obtain ⟨i, hi⟩ := List.getElem?_of_mem hm
  have hil : i < m := by have := (List.getElem?_eq_some_iff.1 hi).1; rw [List.length_take] at this; omega
  rw [List.getElem?_take_of_lt hil] at hi
  obtain ⟨h1, e1⟩ := List.getElem?_eq_some_iff.1 hi
  obtain ⟨h2, e2⟩ := List.getElem?_eq_some_iff.1 ht
  have := (List.pairwise_iff_getElem.1 h) i m h1 h2 hil
  rw [e1, e2] at this
  omega
/-- The rows of a window. -/
def hrows (s hp f r : Int) (G : List Gp) (t : Int) : List Cp := (G.filter fun g => decide (t ∈ ofL s hp r g.2 f)).map fun g => (g.1, copN g.2 t (hend s t))
theorem hrows_next {s hp f r : Int} {G : List Gp} {k : Nat} {g : Gp} (h : G[k]? = some g) (t : Int) : hrows s hp f r (G.take (k + 1)) t = hrows s hp f r (G.take k) t ++ (if t ∈ ofL s hp r g.2 f then [(g.1, copN g.2 t (hend s t))] else []) := by
  unfold hrows
  rw [List.take_add_one, h, List.filter_append, List.map_append]
  congr 1
  by_cases hb : t ∈ ofL s hp r g.2 f
  · rw [if_pos hb, Option.toList_some, List.filter_cons_of_pos (by simpa using hb)]; rfl
  · rw [if_neg hb, Option.toList_some, List.filter_cons_of_neg (by simpa using hb)]; rfl
theorem hrows_len (s hp f r : Int) (G : List Gp) (t : Int) (k : Nat) : (hrows s hp f r (G.take k) t).length ≤ k := by
  unfold hrows
  rw [List.length_map]
  have := List.length_filter_le (fun g : Gp => decide (t ∈ ofL s hp r g.2 f)) (G.take k)
  rw [List.length_take] at this
  omega
/-- Where the windows begin that have rows, each once, in order. -/
def insAll (l : List Int) : List Int := l.foldl ins []
theorem insAll_gen : ∀ (l a : List Int), a.Pairwise (· < ·) → (l.foldl ins a).Pairwise (· < ·) ∧ ∀ x, x ∈ l.foldl ins a ↔ x ∈ a ∨ x ∈ l
  | [], a, h => ⟨h, by simp⟩
  | t :: l, a, h => by
    obtain ⟨h1, h2⟩ := insAll_gen l (ins a t) (ins_asc t h)
    refine ⟨h1, fun x => ?_⟩
    rw [List.foldl_cons, h2 x, ins_mem, List.mem_cons]
    constructor
    · rintro ((h | h) | h)
      · exact .inr (.inl h)
      · exact .inl h
      · exact .inr (.inr h)
    · rintro (h | h | h)
      · exact .inl (.inr h)
      · exact .inl (.inl h)
      · exact .inr h
theorem insAll_asc (l : List Int) : (insAll l).Pairwise (· < ·) := (insAll_gen l [] List.Pairwise.nil).1
theorem insAll_mem (l : List Int) (x : Int) : x ∈ insAll l ↔ x ∈ l := by have := (insAll_gen l [] List.Pairwise.nil).2 x; simpa [insAll] using this
def hkeys (s hp f r : Int) (G : List Gp) : List Int := insAll (G.flatMap fun g => ofL s hp r g.2 f)
theorem hkeys_asc (s hp f r : Int) (G : List Gp) : (hkeys s hp f r G).Pairwise (· < ·) := insAll_asc _
theorem hkeys_mem {s hp f r : Int} {G : List Gp} {t : Int} : t ∈ hkeys s hp f r G ↔ ∃ g ∈ G, t ∈ ofL s hp r g.2 f := by unfold hkeys; rw [insAll_mem, List.mem_flatMap]
theorem hrows_none {s hp f r : Int} {G : List Gp} {t : Int} : hrows s hp f r G t ≠ [] ↔ t ∈ hkeys s hp f r G := by
  rw [hkeys_mem]
  unfold hrows
  constructor
  · intro h
    cases hf : G.filter fun g => decide (t ∈ ofL s hp r g.2 f) with
    | nil => rw [hf] at h; exact absurd rfl h
    | cons g l =>
      have : g ∈ G.filter fun g => decide (t ∈ ofL s hp r g.2 f) := by rw [hf]; simp
      rw [List.mem_filter, decide_eq_true_iff] at this
      exact ⟨g, this.1, this.2⟩
  · rintro ⟨g, hg, ht⟩ h
    have h1 : g ∈ G.filter fun g => decide (t ∈ ofL s hp r g.2 f) := by rw [List.mem_filter, decide_eq_true_iff]; exact ⟨hg, ht⟩
    rw [List.map_eq_nil_iff] at h
    rw [h] at h1
    cases h1
/-- A window's entry: where it begins, the slice of its copies, the copies. -/
abbrev Eh := Int × Value × List Vc
def kentH (p : Eh) : Lit × Value := (.int .i64 p.1, p.2.1)
theorem kh_same (s : Eh) (t : Int) : (kentH s).1.sameKey (.int .i64 t) = decide (s.1 = t) := by
  unfold kentH
  by_cases h : s.1 = t <;> simp [Lit.sameKey, h]
def getH (T : List Eh) (t : Int) : Option Eh := T.find? fun p => decide (p.1 = t)
theorem getM_h (T : List Eh) (t : Int) : getM kentH T (.int .i64 t) = getH T t := by
  unfold getM getH
  congr 1
  funext p
  exact kh_same p t
theorem getH_put (T : List Eh) (x : Eh) (t : Int) : getH (putM kentH T x) t = if x.1 = t then some x else getH T t := by
  unfold putM delM getH
  rw [List.find?_cons]
  by_cases h : x.1 = t
  · simp [h]
  · rw [if_neg h]
    simp only [h, decide_false]
    induction T with
    | nil => rfl
    | cons p T ih =>
      rw [List.filter_cons, show (kentH p).1.sameKey (kentH x).1 = decide (p.1 = x.1) from kh_same p x.1]
      by_cases h2 : p.1 = x.1
      · rw [if_neg (by simp [h2]), List.find?_cons, show decide (p.1 = t) = false by simp; omega]
        exact ih
      · rw [if_pos (by simp [h2]), List.find?_cons, List.find?_cons]
        split
        · rfl
        · exact ih
theorem putH_mem {T : List Eh} {x p : Eh} (h : p ∈ putM kentH T x) : p = x ∨ (p ∈ T ∧ p.1 ≠ x.1) := by
  unfold putM delM at h
  rcases List.mem_cons.1 h with h | h
  · exact .inl h
  · rw [List.mem_filter, show (kentH p).1.sameKey (kentH x).1 = decide (p.1 = x.1) from kh_same p x.1] at h
    exact .inr ⟨h.1, by simpa using h.2⟩
def rowsH (T : List Eh) (t : Int) : List Cp := ((getH T t).map fun p => cps p.2.2).getD []
theorem rowsH_put (T : List Eh) (x : Eh) (t : Int) : rowsH (putM kentH T x) t = if x.1 = t then cps x.2.2 else rowsH T t := by
  unfold rowsH
  rw [getH_put]
  by_cases h : x.1 = t
  · rw [if_pos h, if_pos h]; rfl
  · rw [if_neg h, if_neg h]
/-- A map of windows in memory. -/
def GrpH (W : World) (B mb n : Nat) (T : List Eh) : Prop := Mv W Try.prog 3 kentH mb n T ∧ ((∀ p, ∀ (_ : p ∈ T), OwnC W B p.2.1 p.2.2) ∧ ((∀ p ∈ T, p.2.2 ≠ [] ∧ (0 ≤ p.1 ∧ p.1 < 1125899906842624)) ∧ T.Pairwise fun p q => ∀ b ∈ ob p.2.1, b ∉ ob q.2.1))
theorem OwnC.stab {B B0 : Nat} {v : Value} {L : List Vc} : Stab B fun W => OwnC W B0 v L := (Stab.own _ _ _ _ _ _).and (Stab.all fun p => Stab.all fun _ => Stab.own _ _ _ _ _ _)
theorem GrpH.stab {B B0 mb n : Nat} {T : List Eh} (h : mb < B) : Stab B fun W => GrpH W B0 mb n T := (Stab.mv h).and ((Stab.all fun p => Stab.all fun _ => OwnC.stab).and (Stab.pure _))
theorem hKey : Go.Maps.Keyed Try.prog 3 := Go.Maps.int_keyed Try.underlying3
theorem hkey_of {t : Int} (h : -9223372036854775808 ≤ t ∧ t ≤ 9223372036854775807) : keyOf Try.prog 3 (.int .i64 t) = some (.int .i64 t) := Go.Maps.keyOf_int_mk Try.underlying3 (by simp [Lit.wf, IntKind.min, IntKind.max, IntKind.bits, IntKind.signed]; omega)
theorem GrpH.nodup {W : World} {B mb n : Nat} {T : List Eh} (h : GrpH W B mb n T) : (T.map Prod.fst).Nodup := by
  unfold List.Nodup
  rw [List.pairwise_map]
  exact (h.1.apart hKey).1.imp fun hne e => hne (by unfold kentH; rw [e])
theorem getH_mem {T : List Eh} {t : Int} {p : Eh} (h : getH T t = some p) : p ∈ T ∧ p.1 = t := by
  unfold getH at h
  exact ⟨List.mem_of_find?_eq_some h, by simpa using List.find?_some h⟩
theorem getH_of {T : List Eh} (hn : (T.map Prod.fst).Nodup) {p : Eh} (hp : p ∈ T) : getH T p.1 = some p := by
  unfold getH
  induction T with
  | nil => cases hp
  | cons q T ih =>
    rw [List.find?_cons]
    rw [List.map_cons, List.nodup_cons] at hn
    rcases List.mem_cons.1 hp with rfl | hp
    · simp
    · have : q.1 ≠ p.1 := fun e => hn.1 (by rw [e]; exact List.mem_map.2 ⟨p, hp, rfl⟩)
      rw [show decide (q.1 = p.1) = false by simpa using this]
      exact ih hn.2 hp
/-- The keys are where rows are told. -/
theorem keys_of {T : List Eh} (hn : (T.map Prod.fst).Nodup) (he : ∀ p ∈ T, p.2.2 ≠ []) (t : Int) : t ∈ T.map Prod.fst ↔ rowsH T t ≠ [] := by
  constructor
  · intro h
    obtain ⟨p, hp, rfl⟩ := List.mem_map.1 h
    unfold rowsH
    rw [getH_of hn hp]
    simpa using he p hp
  · intro h
    unfold rowsH at h
    cases hg : getH T t with
    | none => rw [hg] at h; exact absurd rfl h
    | some p => obtain ⟨h1, h2⟩ := getH_mem hg; exact List.mem_map.2 ⟨p, h1, h2⟩
end Go.Proofs.Ytjdbjnpomndfjaa
