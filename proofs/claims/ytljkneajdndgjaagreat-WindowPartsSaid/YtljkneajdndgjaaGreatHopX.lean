/-
  A helper of ours: no claim of its own. Layer 28 (hop): to which windows a row belongs (lists alone).
-/
import Derived.Test.YtljkneajdndgjaaGreatHopO
import Derived.Test.YtljkneajdndgjaaGreatEdgO
import Derived.Test.YtljkneajdndgjaaGreatSnaM
import Derived.Test.YtljkneajdndgjaaGreatEdgGr
set_option linter.unusedVariables false
set_option linter.unusedSimpArgs false
namespace Go.Proofs.YtljkneajdndgjaaGreat
open Go.RowKit
theorem nodup_len {α : Type} [DecidableEq α] : ∀ (l m : List α), l.Nodup → (∀ x ∈ l, x ∈ m) → l.length ≤ m.length
  | [], m, _, _ => Nat.zero_le _
  | x :: l, m, hn, h => by
    obtain ⟨h1, h2⟩ := List.nodup_cons.1 hn
    have hx := h x (by simp)
    have := nodup_len l (m.erase x) h2 fun y hy => (List.mem_erase_of_ne (fun e => h1 (by rw [← e]; exact hy))).2 (h y (by simp [hy]))
    rw [List.length_erase_of_mem hx] at this
    have := List.length_pos_of_mem hx
    rw [List.length_cons]
    omega
theorem hT_asc {h a e : Int} (hh : 1 ≤ h) : (hT h a e).Pairwise (· < ·) := by
  unfold hT
  rw [List.pairwise_map]
  refine List.pairwise_lt_range.imp fun {i j} hij => ?_
  have : (i : Int) * h < (j : Int) * h := Int.mul_lt_mul_of_pos_right (by omega) (by omega)
  omega
/-- What is told rises, and lies behind where one goes on from. -/
theorem ofSt_asc {s hp r : Int} {J : List Jp} {f : Int} (hs : 1 ≤ s) (hh : 1 ≤ hp) (hr : r ≤ 1125899906842624) (hf : 0 ≤ f ∧ f ≤ 1125899906842624) (hJ : ∀ j ∈ J, j.1 < 1125899906842624) : ∀ k, ((ofSt s hp r J f k).2.Pairwise (· < ·) ∧ ∀ t ∈ (ofSt s hp r J f k).2, (f ≤ t ∧ 0 ≤ t ∧ t < 1125899906842624) ∧ t < (ofSt s hp r J f k).1) ∧ f ≤ (ofSt s hp r J f k).1
  | 0 => ⟨⟨List.Pairwise.nil, by intro t ht; cases ht⟩, Int.le_refl _⟩
  | k + 1 => by
    obtain ⟨⟨i1, i2⟩, i3⟩ := ofSt_asc hs hh hr hf hJ k
    have htk := ofSt_tick (s := s) (J := J) hh hr hf k
    cases hj : J[k]? with
    | none => rw [ofSt, hj]; exact ⟨⟨i1, i2⟩, i3⟩
    | some j =>
      by_cases h0 : js (J.take (k + 1)) = 0
      · rw [ofSt_zero hj h0]; exact ⟨⟨i1, i2⟩, i3⟩
      · rw [ofSt_next hj h0]
        simp only
        have hjx := hJ j (List.mem_of_getElem? hj)
        generalize (ofSt s hp r J f k).1 = F at *
        have hlo : ∀ t ∈ ofU s hp r F J k j.1, F ≤ t := fun t ht => by
          have h1 := (hT_in hh ht).1
          unfold hA at h1
          have h2 := hbeg_in (h := hp) (x := if F ≤ j.1 - s + 1 then j.1 - s + 1 else F) hh (by split <;> omega)
          split at h1 <;> split at h2 <;> omega
        have hin : ∀ t ∈ ofU s hp r F J k j.1, 0 ≤ t ∧ t < 1125899906842624 := fun t ht => ofU_in hh hr ht
        have hasc : (ofU s hp r F J k j.1).Pairwise (· < ·) := hT_asc hh
        generalize ofU s hp r F J k j.1 = U at *
        have hlast : ∀ t ∈ U, t < (U.getLast?.map (· + 1)).getD F := fun t ht => by
          cases hl : U.getLast? with
          | none => rw [List.getLast?_eq_none_iff] at hl; rw [hl] at ht; cases ht
          | some z =>
            simp only [Option.map_some, Option.getD_some]
            obtain ⟨V, rfl⟩ := List.getLast?_eq_some_iff.1 hl
            rcases List.mem_append.1 ht with ht | ht
            · have := (List.pairwise_append.1 hasc).2.2 t ht z (by simp); omega
            · obtain rfl := List.mem_singleton.1 ht; omega
        have hge : F ≤ (U.getLast?.map (· + 1)).getD F := by
          cases hl : U.getLast? with
          | none => simp
          | some z => have := hlo z (List.mem_of_getLast? hl); simp only [Option.map_some, Option.getD_some]; omega
        refine ⟨⟨List.pairwise_append.2 ⟨i1, hasc, fun x hx y hy => ?_⟩, fun t ht => ?_⟩, by omega⟩
        · have := (i2 x hx).2; have := hlo y hy; omega
        · rcases List.mem_append.1 ht with ht | ht
          · have := i2 t ht; omega
          · have := hlo t ht; have := hin t ht; have := hlast t ht; omega
theorem ofL_asc {s hp r : Int} {J : List Jp} {f : Int} (hs : 1 ≤ s) (hh : 1 ≤ hp) (hr : r ≤ 1125899906842624) (hf : 0 ≤ f ∧ f ≤ 1125899906842624) (hJ : mayJ J = true) : (ofL s hp r J f).Pairwise (· < ·) ∧ ∀ t ∈ ofL s hp r J f, f ≤ t ∧ 0 ≤ t ∧ t < 1125899906842624 := by
  have := (ofSt_asc (J := J) (f := f) hs hh hr hf (fun j hj => (mayJ_at hJ j hj).2) J.length).1
  exact ⟨this.1, fun t ht => (this.2 t ht).1⟩
theorem asc_nodup {l : List Int} (h : l.Pairwise (· < ·)) : l.Nodup := h.imp fun {a b} hab e => by omega
theorem asc_fresh {l : List Int} (h : l.Pairwise (· < ·)) {m : Nat} {t : Int} (ht : l[m]? = some t) : t ∉ l.take m := by
  intro hm
  obtain ⟨i, hi⟩ := List.getElem?_of_mem hm
  have hil : i < m := by have := (List.getElem?_eq_some_iff.1 hi).1; rw [List.length_take] at this; omega
  rw [List.getElem?_take_of_lt hil] at hi
  obtain ⟨h1, e1⟩ := List.getElem?_eq_some_iff.1 hi
  obtain ⟨h2, e2⟩ := List.getElem?_eq_some_iff.1 ht
  have := (List.pairwise_iff_getElem.1 h) i m h1 h2 hil
  rw [e1, e2] at this
  omega
/-- The rows of a window. -/
def hrows (s hp f r : Int) (G : List Gp) (t : Int) : List Cp := (G.filter fun g => decide (t ∈ ofL s hp r g.2 f)).map fun g => (g.1, copN g.2 t (hend s t))
theorem hrows_next {s hp f r : Int} {G : List Gp} {k : Nat} {g : Gp} (h : G[k]? = some g) (t : Int) : hrows s hp f r (G.take (k + 1)) t = hrows s hp f r (G.take k) t ++ (if t ∈ ofL s hp r g.2 f then [(g.1, copN g.2 t (hend s t))] else []) := by
  unfold hrows
  rw [List.take_add_one, h, List.filter_append, List.map_append]
  congr 1
  by_cases hb : t ∈ ofL s hp r g.2 f
  · rw [if_pos hb, Option.toList_some, List.filter_cons_of_pos (by simpa using hb)]; rfl
  · rw [if_neg hb, Option.toList_some, List.filter_cons_of_neg (by simpa using hb)]; rfl
theorem hrows_len (s hp f r : Int) (G : List Gp) (t : Int) (k : Nat) : (hrows s hp f r (G.take k) t).length ≤ k := by
  unfold hrows
  rw [List.length_map]
  have := List.length_filter_le (fun g : Gp => decide (t ∈ ofL s hp r g.2 f)) (G.take k)
  rw [List.length_take] at this
  omega
/-- Where the windows begin that have rows, each once, in order. -/
def insAll (l : List Int) : List Int := l.foldl ins []
theorem insAll_gen : ∀ (l a : List Int), a.Pairwise (· < ·) → (l.foldl ins a).Pairwise (· < ·) ∧ ∀ x, x ∈ l.foldl ins a ↔ x ∈ a ∨ x ∈ l
  | [], a, h => ⟨h, by simp⟩
  | t :: l, a, h => by
    obtain ⟨h1, h2⟩ := insAll_gen l (ins a t) (ins_asc t h)
    refine ⟨h1, fun x => ?_⟩
    rw [List.foldl_cons, h2 x, ins_mem, List.mem_cons]
    constructor
    · rintro ((h | h) | h)
      · exact .inr (.inl h)
      · exact .inl h
      · exact .inr (.inr h)
    · rintro (h | h | h)
      · exact .inl (.inr h)
      · exact .inl (.inl h)
      · exact .inr h
theorem insAll_asc (l : List Int) : (insAll l).Pairwise (· < ·) := (insAll_gen l [] List.Pairwise.nil).1
theorem insAll_mem (l : List Int) (x : Int) : x ∈ insAll l ↔ x ∈ l := by have := (insAll_gen l [] List.Pairwise.nil).2 x; simpa [insAll] using this
def hkeys (s hp f r : Int) (G : List Gp) : List Int := insAll (G.flatMap fun g => ofL s hp r g.2 f)
theorem hkeys_asc (s hp f r : Int) (G : List Gp) : (hkeys s hp f r G).Pairwise (· < ·) := insAll_asc _
theorem hkeys_mem {s hp f r : Int} {G : List Gp} {t : Int} : t ∈ hkeys s hp f r G ↔ ∃ g ∈ G, t ∈ ofL s hp r g.2 f := by unfold hkeys; rw [insAll_mem, List.mem_flatMap]
theorem hrows_none {s hp f r : Int} {G : List Gp} {t : Int} : hrows s hp f r G t ≠ [] ↔ t ∈ hkeys s hp f r G := by
  rw [hkeys_mem]
  unfold hrows
  constructor
  · intro h
    cases hf : G.filter fun g => decide (t ∈ ofL s hp r g.2 f) with
    | nil => rw [hf] at h; exact absurd rfl h
    | cons g l =>
      have : g ∈ G.filter fun g => decide (t ∈ ofL s hp r g.2 f) := by rw [hf]; simp
      rw [List.mem_filter, decide_eq_true_iff] at this
      exact ⟨g, this.1, this.2⟩
  · rintro ⟨g, hg, ht⟩ h
    have h1 : g ∈ G.filter fun g => decide (t ∈ ofL s hp r g.2 f) := by rw [List.mem_filter, decide_eq_true_iff]; exact ⟨hg, ht⟩
    rw [List.map_eq_nil_iff] at h
    rw [h] at h1
    cases h1
/-- A window's entry: where it begins, the slice of its copies, the copies. -/
abbrev Eh := Int × Value × List Vc
def kentH (p : Eh) : Lit × Value := (.int .i64 p.1, p.2.1)
theorem kh_same (s : Eh) (t : Int) : (kentH s).1.sameKey (.int .i64 t) = decide (s.1 = t) := by
  unfold kentH
  by_cases h : s.1 = t <;> simp [Lit.sameKey, h]
def getH (T : List Eh) (t : Int) : Option Eh := T.find? fun p => decide (p.1 = t)
theorem getM_h (T : List Eh) (t : Int) : getM kentH T (.int .i64 t) = getH T t := by
  unfold getM getH
  congr 1
  funext p
  exact kh_same p t
theorem getH_put (T : List Eh) (x : Eh) (t : Int) : getH (putM kentH T x) t = if x.1 = t then some x else getH T t := by
  unfold putM delM getH
  rw [List.find?_cons]
  by_cases h : x.1 = t
  · simp [h]
  · rw [if_neg h]
    simp only [h, decide_false]
    induction T with
    | nil => rfl
    | cons p T ih =>
      rw [List.filter_cons, show (kentH p).1.sameKey (kentH x).1 = decide (p.1 = x.1) from kh_same p x.1]
      by_cases h2 : p.1 = x.1
      · rw [if_neg (by simp [h2]), List.find?_cons, show decide (p.1 = t) = false by simp; omega]
        exact ih
      · rw [if_pos (by simp [h2]), List.find?_cons, List.find?_cons]
        split
        · rfl
        · exact ih
theorem putH_mem {T : List Eh} {x p : Eh} (h : p ∈ putM kentH T x) : p = x ∨ (p ∈ T ∧ p.1 ≠ x.1) := by
  unfold putM delM at h
  rcases List.mem_cons.1 h with h | h
  · exact .inl h
  · rw [List.mem_filter, show (kentH p).1.sameKey (kentH x).1 = decide (p.1 = x.1) from kh_same p x.1] at h
    exact .inr ⟨h.1, by simpa using h.2⟩
def rowsH (T : List Eh) (t : Int) : List Cp := ((getH T t).map fun p => cps p.2.2).getD []
theorem rowsH_put (T : List Eh) (x : Eh) (t : Int) : rowsH (putM kentH T x) t = if x.1 = t then cps x.2.2 else rowsH T t := by
  unfold rowsH
  rw [getH_put]
  by_cases h : x.1 = t
  · rw [if_pos h, if_pos h]; rfl
  · rw [if_neg h, if_neg h]
/-- A map of windows in memory. -/
def GrpH (W : World) (B mb n : Nat) (T : List Eh) : Prop := Mv W Tryz.prog 3 kentH mb n T ∧ ((∀ p, ∀ (_ : p ∈ T), OwnC W B p.2.1 p.2.2) ∧ ((∀ p ∈ T, p.2.2 ≠ [] ∧ (0 ≤ p.1 ∧ p.1 < 1125899906842624)) ∧ T.Pairwise fun p q => ∀ b ∈ ob p.2.1, b ∉ ob q.2.1))
theorem OwnC.stab {B B0 : Nat} {v : Value} {L : List Vc} : Stab B fun W => OwnC W B0 v L := (Stab.own _ _ _ _ _ _).and (Stab.all fun p => Stab.all fun _ => Stab.own _ _ _ _ _ _)
theorem GrpH.stab {B B0 mb n : Nat} {T : List Eh} (h : mb < B) : Stab B fun W => GrpH W B0 mb n T := (Stab.mv h).and ((Stab.all fun p => Stab.all fun _ => OwnC.stab).and (Stab.pure _))
theorem hKey : Go.Maps.Keyed Tryz.prog 3 := Go.Maps.int_keyed Tryz.underlying3
theorem hkey_of {t : Int} (h : -9223372036854775808 ≤ t ∧ t ≤ 9223372036854775807) : keyOf Tryz.prog 3 (.int .i64 t) = some (.int .i64 t) := Go.Maps.keyOf_int_mk Tryz.underlying3 (by simp [Lit.wf, IntKind.min, IntKind.max, IntKind.bits, IntKind.signed]; omega)
theorem GrpH.nodup {W : World} {B mb n : Nat} {T : List Eh} (h : GrpH W B mb n T) : (T.map Prod.fst).Nodup := by
  unfold List.Nodup
  rw [List.pairwise_map]
  exact (h.1.apart hKey).1.imp fun hne e => hne (by unfold kentH; rw [e])
theorem getH_mem {T : List Eh} {t : Int} {p : Eh} (h : getH T t = some p) : p ∈ T ∧ p.1 = t := by
  unfold getH at h
  exact ⟨List.mem_of_find?_eq_some h, by simpa using List.find?_some h⟩
theorem getH_of {T : List Eh} (hn : (T.map Prod.fst).Nodup) {p : Eh} (hp : p ∈ T) : getH T p.1 = some p := by
  unfold getH
  induction T with
  | nil => cases hp
  | cons q T ih =>
    rw [List.find?_cons]
    rw [List.map_cons, List.nodup_cons] at hn
    rcases List.mem_cons.1 hp with rfl | hp
    · simp
    · have : q.1 ≠ p.1 := fun e => hn.1 (by rw [e]; exact List.mem_map.2 ⟨p, hp, rfl⟩)
      rw [show decide (q.1 = p.1) = false by simpa using this]
      exact ih hn.2 hp
/-- The keys are where rows are told. -/
theorem keys_of {T : List Eh} (hn : (T.map Prod.fst).Nodup) (he : ∀ p ∈ T, p.2.2 ≠ []) (t : Int) : t ∈ T.map Prod.fst ↔ rowsH T t ≠ [] := by
  constructor
  · intro h
    obtain ⟨p, hp, rfl⟩ := List.mem_map.1 h
    unfold rowsH
    rw [getH_of hn hp]
    simpa using he p hp
  · intro h
    unfold rowsH at h
    cases hg : getH T t with
    | none => rw [hg] at h; exact absurd rfl h
    | some p => obtain ⟨h1, h2⟩ := getH_mem hg; exact List.mem_map.2 ⟨p, h1, h2⟩
end Go.Proofs.YtljkneajdndgjaaGreat
set_option linter.unusedVariables false
set_option linter.unusedSimpArgs false
namespace Go.Proofs.YtljkneajdndgjaaGreat
open Go.RowKit
theorem hT_mem {h a e t : Int} (hh : 1 ≤ h) : t ∈ hT h a e ↔ ∃ i : Nat, t = a + (i : Int) * h ∧ t < e := by
  unfold hT
  rw [List.mem_map]
  constructor
  · rintro ⟨i, hi, rfl⟩
    exact ⟨i, rfl, (hN_lt hh i).1 (List.mem_range.1 hi)⟩
  · rintro ⟨i, rfl, h2⟩
    exact ⟨i, List.mem_range.2 ((hN_lt hh i).2 h2), rfl⟩
/-- Multiples of a hop. -/
def Mul (h t : Int) : Prop := ∃ n : Nat, t = (n : Int) * h
theorem hcnt_le {h x : Int} (hh : 1 ≤ h) (n : Nat) : hcnt h x * h ≤ (n : Int) * h ↔ x ≤ (n : Int) * h := by
  unfold hcnt
  split
  · have h0 : 0 ≤ (n : Int) * h := Int.mul_nonneg (by omega) (by omega)
    omega
  · have e1 : (x - 1) / h < n ↔ x - 1 < (n : Int) * h := Int.ediv_lt_iff_lt_mul (by omega)
    constructor
    · intro h1
      have h2 : (x - 1) / h + 1 ≤ n := by
        refine Classical.byContradiction fun hn => ?_
        have h3 : (n : Int) + 1 ≤ (x - 1) / h + 1 := by omega
        have h4 := Int.mul_le_mul_of_nonneg_right h3 (show (0 : Int) ≤ h by omega)
        rw [Int.add_mul] at h4
        omega
      have := e1.1 (by omega)
      omega
    · intro h1
      have h2 := e1.2 (by omega)
      exact Int.mul_le_mul_of_nonneg_right (by omega) (by omega)
theorem hcnt_nat {h x : Int} (hh : 1 ≤ h) : ∃ n : Nat, hcnt h x = n := by
  unfold hcnt
  split
  · exact ⟨0, rfl⟩
  · have e0 : 0 ≤ (x - 1) / h := Int.ediv_nonneg (by omega) (by omega)
    exact ⟨((x - 1) / h + 1).toNat, by omega⟩
theorem hbeg_mem {h x e t : Int} (hh : 1 ≤ h) (he : e ≤ 1125899906842624) : t ∈ hT h (hbeg h x) e ↔ Mul h t ∧ x ≤ t ∧ t < e := by
  rw [hT_mem hh]
  obtain ⟨m, hm⟩ := hcnt_nat (x := x) hh
  have hc := hcnt_le (x := x) hh
  rw [hm] at hc
  constructor
  · rintro ⟨i, ht, hte⟩
    have h0 : 0 ≤ (i : Int) * h := Int.mul_nonneg (by omega) (by omega)
    unfold hbeg at ht
    rw [hm] at ht
    split at ht
    · have h1 := (hc m).1 (Int.le_refl _)
      exact ⟨⟨m + i, by rw [ht]; push_cast; rw [Int.add_mul]⟩, by omega, hte⟩
    · omega
  · rintro ⟨⟨n, rfl⟩, hx, hte⟩
    have h1 := (hc n).2 hx
    have hmn : m ≤ n := by
      refine Classical.byContradiction fun hn => ?_
      have h3 : (n : Int) + 1 ≤ m := by omega
      have h4 := Int.mul_le_mul_of_nonneg_right h3 (show (0 : Int) ≤ h by omega)
      rw [Int.add_mul] at h4
      omega
    unfold hbeg
    rw [hm, if_pos (by omega)]
    refine ⟨n - m, ?_, hte⟩
    rw [Int.ofNat_sub hmn, Int.sub_mul]
    omega
theorem ofU_mem {s hp r F x t : Int} {J : List Jp} {k : Nat} (hh : 1 ≤ hp) (hr : r ≤ 1125899906842624) : t ∈ ofU s hp r F J k x ↔ Mul hp t ∧ F ≤ t ∧ x < t + s ∧ t < r ∧ t < hnxJ J k := by
  unfold ofU hA
  rw [hbeg_mem hh (hZ_le hr)]
  unfold hZ
  constructor
  · rintro ⟨h1, h2, h3⟩
    refine ⟨h1, ?_⟩
    split at h2 <;> split at h3 <;> omega
  · rintro ⟨h1, h2, h3, h4, h5⟩
    refine ⟨h1, ?_, ?_⟩
    · split <;> omega
    · split <;> omega
/-- Some time at which the row is there, among the first k, shares a tick with a window. -/
def Hit (s : Int) (J : List Jp) (k : Nat) (t : Int) : Prop := ∃ i j, i < k ∧ J[i]? = some j ∧ js (J.take (i + 1)) ≠ 0 ∧ j.1 < t + s ∧ t < hnxJ J i
theorem hnxJ_mono {J : List Jp} (hm : mayJ J = true) {i k : Nat} {j : Jp} (hik : i < k) (hk : J[k]? = some j) : hnxJ J i ≤ j.1 := by
  have hkl := (List.getElem?_eq_some_iff.1 hk).1
  obtain ⟨y, hy⟩ : ∃ y, J[i + 1]? = some y := ⟨_, List.getElem?_eq_getElem (by omega)⟩
  unfold hnxJ
  rw [hy]
  show y.1 ≤ j.1
  rcases Nat.eq_or_lt_of_le (show i + 1 ≤ k from hik) with h | h
  · subst h; rw [hy] at hk; cases hk; omega
  · have h3 := List.pairwise_iff_getElem.1 (mayJ_iff.1 hm).2.2 (i + 1) k (by omega) hkl h
    rw [(List.getElem?_eq_some_iff.1 hy).2, (List.getElem?_eq_some_iff.1 hk).2] at h3
    omega
theorem mayJ_lt {J : List Jp} (hm : mayJ J = true) {i k : Nat} {x j : Jp} (hi : J[i]? = some x) (hik : i < k) (hk : J[k]? = some j) : x.1 < j.1 := by
  have h3 := List.pairwise_iff_getElem.1 (mayJ_iff.1 hm).2.2 i k (List.getElem?_eq_some_iff.1 hi).1 (List.getElem?_eq_some_iff.1 hk).1 hik
  rw [(List.getElem?_eq_some_iff.1 hi).2, (List.getElem?_eq_some_iff.1 hk).2] at h3
  exact h3
theorem ofSt_mem {s hp r f : Int} {J : List Jp} (hh : 1 ≤ hp) (hr : r ≤ 1125899906842624) (hm : mayJ J = true) : ∀ k, (∀ t, t ∈ (ofSt s hp r J f k).2 ↔ Mul hp t ∧ f ≤ t ∧ t < r ∧ Hit s J k t) ∧ (((ofSt s hp r J f k).1 = f ∨ ∃ z ∈ (ofSt s hp r J f k).2, (ofSt s hp r J f k).1 = z + 1) ∧ f ≤ (ofSt s hp r J f k).1)
  | 0 => ⟨fun t => ⟨fun h => by simp [ofSt] at h, fun ⟨_, _, _, i, j, hi, _⟩ => by omega⟩, .inl rfl, Int.le_refl _⟩
  | k + 1 => by
    obtain ⟨ih1, ih2, ih3⟩ := ofSt_mem (s := s) (f := f) hh hr hm k
    cases hj : J[k]? with
    | none =>
      have e : ofSt s hp r J f (k + 1) = ofSt s hp r J f k := by rw [ofSt, hj]
      rw [e]
      refine ⟨fun t => (ih1 t).trans ⟨fun ⟨a, b, c, i, j, hi, h⟩ => ⟨a, b, c, i, j, by omega, h⟩, fun ⟨a, b, c, i, j, hi, h⟩ => ⟨a, b, c, i, j, ?_, h⟩⟩, ih2, ih3⟩
      rcases Nat.lt_or_ge i k with h2 | h2
      · exact h2
      · obtain rfl : i = k := by omega
        rw [hj] at h; cases h.1
    | some x =>
      by_cases h0 : js (J.take (k + 1)) = 0
      · rw [ofSt_zero hj h0]
        refine ⟨fun t => (ih1 t).trans ⟨fun ⟨a, b, c, i, j, hi, h⟩ => ⟨a, b, c, i, j, by omega, h⟩, fun ⟨a, b, c, i, j, hi, h⟩ => ⟨a, b, c, i, j, ?_, h⟩⟩, ih2, ih3⟩
        rcases Nat.lt_or_ge i k with h2 | h2
        · exact h2
        · obtain rfl : i = k := by omega
          exact absurd h0 h.2.1
      · rw [ofSt_next hj h0]
        obtain ⟨F, hF⟩ : ∃ F, F = (ofSt s hp r J f k).1 := ⟨_, rfl⟩
        obtain ⟨A, hA⟩ : ∃ A, A = (ofSt s hp r J f k).2 := ⟨_, rfl⟩
        rw [← hF] at ih2 ih3
        rw [← hA] at ih1 ih2
        rw [← hF, ← hA]
        obtain ⟨U, hU⟩ : ∃ U, U = ofU s hp r F J k x.1 := ⟨_, rfl⟩
        rw [← hU]
        have hUm : ∀ t, t ∈ U ↔ Mul hp t ∧ F ≤ t ∧ x.1 < t + s ∧ t < r ∧ t < hnxJ J k := fun t => by rw [hU]; exact ofU_mem hh hr
        refine ⟨fun t => ?_, ?_, ?_⟩
        · rw [List.mem_append, ih1, hUm]
          constructor
          · rintro (⟨a, b, c, i, j, hi, h⟩ | ⟨a, b, c, d, e⟩)
            · exact ⟨a, b, c, i, j, by omega, h⟩
            · exact ⟨a, by omega, d, k, x, by omega, hj, h0, c, e⟩
          · rintro ⟨a, b, c, i, j, hi, h1, h2, h3, h4⟩
            rcases Nat.lt_or_ge i k with h5 | h5
            · exact .inl ⟨a, b, c, i, j, h5, h1, h2, h3, h4⟩
            · obtain rfl : i = k := by omega
              rw [hj] at h1
              obtain rfl := Option.some.inj h1
              by_cases hFt : F ≤ t
              · exact .inr ⟨a, hFt, h3, c, h4⟩
              · rcases ih2 with rfl | ⟨z, hz, hFz⟩
                · omega
                · obtain ⟨z1, z2, z3, i', j', hi', q1, q2, q3, q4⟩ := (ih1 z).1 hz
                  have h6 := hnxJ_mono hm hi' hj
                  have h7 := mayJ_lt hm q1 hi' hj
                  exact .inl ⟨a, b, c, i', j', hi', q1, q2, by omega, by omega⟩
        · rcases List.eq_nil_or_concat U with hn | ⟨V, z, hn⟩
          · rw [hn]
            rcases ih2 with h | ⟨z, hz, h⟩
            · exact .inl h
            · exact .inr ⟨z, List.mem_append_left _ hz, h⟩
          · refine .inr ⟨z, List.mem_append_right _ (by rw [hn]; simp), ?_⟩
            rw [hn]; simp
        · rcases List.eq_nil_or_concat U with hn | ⟨V, z, hn⟩
          · rw [hn]; exact ih3
          · obtain ⟨-, h1, -⟩ := (hUm z).1 (by rw [hn]; simp)
            rw [hn]
            simp
            omega
theorem mem_ofL {s hp r f t : Int} {J : List Jp} (hh : 1 ≤ hp) (hr : r ≤ 1125899906842624) (hm : mayJ J = true) : t ∈ ofL s hp r J f ↔ Mul hp t ∧ f ≤ t ∧ t < r ∧ Hit s J J.length t := (ofSt_mem hh hr hm J.length).1 t
theorem jv_at {J : List Jp} (hm : mayJ J = true) {i : Nat} {j : Jp} (hj : J[i]? = some j) {u : Int} (h1 : j.1 ≤ u) (h2 : u < hnxJ J i) : js (J.take (i + 1)) = jv J u := by
  rw [js_here hm hj]
  refine jv_between h1 fun x hx => ?_
  obtain ⟨k, hk⟩ := List.getElem?_of_mem hx
  rcases Nat.lt_trichotomy k i with h | h | h
  · exact .inl (by have := mayJ_lt hm hk h hj; omega)
  · subst h; rw [hj] at hk; cases hk; exact .inl (Int.le_refl _)
  · exact .inr (by have := hnxJ_mono hm h hk; omega)
theorem last_le {J : List Jp} {u : Int} (hu : u < 1125899906842624) : ∀ (d i : Nat) (j : Jp), J.length - i = d → J[i]? = some j → j.1 ≤ u → ∃ i' j', J[i']? = some j' ∧ j'.1 ≤ u ∧ u < hnxJ J i'
  | 0, i, j, hd, hj, _ => by have := (List.getElem?_eq_some_iff.1 hj).1; omega
  | d + 1, i, j, hd, hj, hju => by
    by_cases h : u < hnxJ J i
    · exact ⟨i, j, hj, hju, h⟩
    · cases hn : J[i + 1]? with
      | none => unfold hnxJ at h; rw [hn] at h; exact absurd hu h
      | some y =>
        unfold hnxJ at h
        rw [hn] at h
        have hy : y.1 ≤ u := by simpa using h
        have hl := (List.getElem?_eq_some_iff.1 hn).1
        exact last_le hu d (i + 1) y (by omega) hn hy
/-- As values: some tick of the window at which the function is not 0. -/
theorem hit_val {s t : Int} {J : List Jp} (hs : 1 ≤ s) (hm : mayJ J = true) : Hit s J J.length t ↔ ∃ u, t ≤ u ∧ u < t + s ∧ u < 1125899906842624 ∧ jv J u ≠ 0 := by
  constructor
  · rintro ⟨i, j, hi, hj, h0, h1, h2⟩
    have h3 := hnxJ_in hm (k := i) (x := j.1) (y := j.2) hj
    refine ⟨max t j.1, by omega, by omega, by omega, ?_⟩
    rw [← jv_at hm hj (u := max t j.1) (by omega) (by omega)]
    exact h0
  · rintro ⟨u, h1, h2, h3, h4⟩
    obtain ⟨j, hj, hju⟩ : ∃ j ∈ J, j.1 ≤ u := by
      refine Classical.byContradiction fun hn => h4 (jv_low fun j hj => ?_)
      exact Int.not_le.1 fun h => hn ⟨j, hj, h⟩
    obtain ⟨i, hi⟩ := List.getElem?_of_mem hj
    obtain ⟨i', j', q1, q2, q3⟩ := last_le h3 _ i j rfl hi hju
    exact ⟨i', j', (List.getElem?_eq_some_iff.1 q1).1, q1, by rw [jv_at hm q1 q2 q3]; exact h4, by omega, by omega⟩
theorem ofL_val {s hp r f t : Int} {J : List Jp} (hs : 1 ≤ s) (hh : 1 ≤ hp) (hr : r ≤ 1125899906842624) (hm : mayJ J = true) : t ∈ ofL s hp r J f ↔ Mul hp t ∧ f ≤ t ∧ t < r ∧ ∃ u, t ≤ u ∧ u < t + s ∧ u < 1125899906842624 ∧ jv J u ≠ 0 := by
  rw [mem_ofL hh hr hm, hit_val hs hm]
end Go.Proofs.YtljkneajdndgjaaGreat
