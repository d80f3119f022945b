/-
  A helper of ours: no claim of its own. Layer 14 (past), on lists: the events that are known, in the order in which they end.
-/
import Derived.Test.YtajelkkiijdegaaGreatFolS
set_option linter.unusedVariables false
set_option linter.unusedSimpArgs false
namespace Go.Proofs.YtajelkkiijdegaaGreat
open Go.RowKit
/-- A known event: its number and serial, its row, its lifetime; the block in which it lies, its row's slice. -/
abbrev Pe := (Int × Nat) × List Vl × Spn
abbrev Pb := Pe × Nat × Value
def pId (p : Pb) : Int := p.1.1.1
def pSer (p : Pb) : Nat := p.1.1.2
def pTo (p : Pb) : Int := p.1.2.2.2
def befB (p q : Pb) : Bool := decide (pTo p < pTo q ∨ (pTo p = pTo q ∧ pSer p < pSer q))
theorem bef_iff {p q : Pb} : befB p q = true ↔ (pTo p < pTo q ∨ (pTo p = pTo q ∧ pSer p < pSer q)) := by unfold befB; exact decide_eq_true_iff
theorem bef_no {p q : Pb} : befB p q = false ↔ ¬ (pTo p < pTo q ∨ (pTo p = pTo q ∧ pSer p < pSer q)) := by unfold befB; exact decide_eq_false_iff_not
/-- How many ahead have a property. -/
def ldN (f : Pb → Bool) : List Pb → Nat
  | [] => 0
  | p :: r => if f p then ldN f r + 1 else 0
theorem ld_le (f : Pb → Bool) : ∀ L : List Pb, ldN f L ≤ L.length
  | [] => Nat.le_refl _
  | p :: r => by unfold ldN; have := ld_le f r; split <;> simp <;> omega
/-- What has the property lies ahead of what has not. -/
def Down (f : Pb → Bool) (L : List Pb) : Prop := L.Pairwise fun p q => f q = true → f p = true
theorem ld_both {f : Pb → Bool} : ∀ {L : List Pb}, Down f L → L.take (ldN f L) = L.filter f ∧ L.drop (ldN f L) = L.filter fun x => !f x
  | [], _ => ⟨rfl, rfl⟩
  | p :: r, h => by
    obtain ⟨h1, h2⟩ := List.pairwise_cons.1 h
    unfold ldN
    cases hp : f p
    · have hn : ∀ x ∈ r, f x = false := fun x hx => by
        cases hx2 : f x
        · rfl
        · have := h1 x hx hx2; rw [hp] at this; cases this
      rw [if_neg (by decide), List.take_zero, List.drop_zero, List.filter_cons_of_neg (by rw [hp]; decide), List.filter_cons_of_pos (by rw [hp]; rfl)]
      exact ⟨(List.filter_eq_nil_iff.2 fun x hx => by rw [hn x hx]; decide).symm, by rw [List.filter_eq_self.2 fun x hx => by rw [hn x hx]; rfl]⟩
    · obtain ⟨k1, k2⟩ := ld_both h2
      rw [if_pos rfl, List.take_succ_cons, List.drop_succ_cons, k1, k2, List.filter_cons_of_pos hp, List.filter_cons_of_neg (by rw [hp]; decide)]
      exact ⟨rfl, rfl⟩
theorem ld_lt {f : Pb → Bool} : ∀ {L : List Pb} {i : Nat} {p : Pb}, L[i]? = some p → i < ldN f L → f p = true
  | q :: r, 0, p, h, hi => by
    simp at h; subst h
    unfold ldN at hi
    split at hi
    · assumption
    · omega
  | q :: r, i + 1, p, h, hi => by
    unfold ldN at hi
    split at hi
    · exact ld_lt (L := r) (by simpa using h) (by omega)
    · omega
theorem ld_ge {f : Pb → Bool} {L : List Pb} (hd : Down f L) {i : Nat} {p : Pb} (hp : L[i]? = some p) (hi : ldN f L ≤ i) : f p = false := by
  have h1 := (ld_both hd).2
  have h2 : (L.drop (ldN f L))[i - ldN f L]? = some p := by rw [List.getElem?_drop, show ldN f L + (i - ldN f L) = i by omega]; exact hp
  rw [h1] at h2
  have := (List.mem_filter.1 (List.mem_of_getElem? h2)).2
  simpa using this
theorem ld_is {f : Pb → Bool} {L : List Pb} (hd : Down f L) {n : Nat} (hn : n ≤ L.length) (h1 : ∀ i p, L[i]? = some p → i < n → f p = true) (h2 : ∀ i p, L[i]? = some p → n ≤ i → f p = false) : ldN f L = n := by
  rcases Nat.lt_trichotomy (ldN f L) n with h | h | h
  · obtain ⟨p, hp⟩ : ∃ p, L[ldN f L]? = some p := ⟨_, List.getElem?_eq_getElem (by omega)⟩
    have a := h1 _ p hp h
    have b := ld_ge hd hp (Nat.le_refl _)
    rw [a] at b; cases b
  · exact h
  · have hl := ld_le f L
    obtain ⟨p, hp⟩ : ∃ p, L[n]? = some p := ⟨_, List.getElem?_eq_getElem (by omega)⟩
    have a := h2 _ p hp (Nat.le_refl _)
    have b := ld_lt hp h
    rw [a] at b; cases b
/-- The order is one. -/
def Srt (L : List Pb) : Prop := L.Pairwise fun p q => befB p q = true
theorem srt_down {L : List Pb} (h : Srt L) (x : Pb) : Down (fun y => befB y x) L := by
  refine List.Pairwise.imp (fun {p q} hpq hq => ?_) h
  rw [bef_iff] at hpq hq ⊢
  omega
theorem srt_downT {L : List Pb} (h : Srt L) (t : Int) : Down (fun y => decide (pTo y ≤ t)) L := by
  refine List.Pairwise.imp (fun {p q} hpq hq => ?_) h
  rw [bef_iff] at hpq
  rw [decide_eq_true_iff] at hq ⊢
  omega
def plN (L : List Pb) (x : Pb) : Nat := ldN (fun y => befB y x) L
def insP (L : List Pb) (x : Pb) : List Pb := L.take (plN L x) ++ x :: L.drop (plN L x)
theorem mem_insP {L : List Pb} {x y : Pb} : y ∈ insP L x ↔ y = x ∨ y ∈ L := by
  unfold insP
  rw [List.mem_append, List.mem_cons]
  constructor
  · rintro (h | h | h)
    · exact .inr (List.mem_of_mem_take h)
    · exact .inl h
    · exact .inr (List.mem_of_mem_drop h)
  · rintro (h | h)
    · exact .inr (.inl h)
    · rw [← List.take_append_drop (plN L x) L] at h
      rcases List.mem_append.1 h with h | h
      · exact .inl h
      · exact .inr (.inr h)
theorem insP_srt {L : List Pb} (h : Srt L) {x : Pb} (hx : ∀ y ∈ L, ¬ (pTo y = pTo x ∧ pSer y = pSer x)) : Srt (insP L x) := by
  obtain ⟨h1, h2⟩ := ld_both (srt_down h x)
  unfold insP plN
  refine List.pairwise_append.2 ⟨List.Pairwise.take h, List.pairwise_cons.2 ⟨fun y hy => ?_, List.Pairwise.drop h⟩, fun y hy z hz => ?_⟩
  · rw [h2] at hy
    obtain ⟨k1, k2⟩ := List.mem_filter.1 hy
    simp only [Bool.not_eq_true', bef_no] at k2
    have := hx y k1
    rw [bef_iff]
    omega
  · rw [h1] at hy
    obtain ⟨k1, k2⟩ := List.mem_filter.1 hy
    rcases List.mem_cons.1 hz with rfl | hz
    · exact k2
    · rw [h2] at hz
      obtain ⟨k3, k4⟩ := List.mem_filter.1 hz
      simp only [Bool.not_eq_true', bef_no] at k4
      rw [bef_iff] at k2 ⊢
      have := hx z k3
      omega
/-- An event that is there stands at its place. -/
theorem pl_at {a r : List Pb} {x : Pb} (h : Srt (a ++ x :: r)) : plN (a ++ x :: r) x = a.length := by
  obtain ⟨h1, h2, h3⟩ := List.pairwise_append.1 h
  obtain ⟨h4, h5⟩ := List.pairwise_cons.1 h2
  refine ld_is (srt_down h x) (by simp) (fun i p hp hi => ?_) (fun i p hp hi => ?_)
  · rw [List.getElem?_append_left hi] at hp
    exact h3 p (List.mem_of_getElem? hp) x (by simp)
  · rw [List.getElem?_append_right hi] at hp
    rcases List.mem_cons.1 (List.mem_of_getElem? hp) with rfl | hm
    · rw [bef_no]; omega
    · have := h4 p hm
      rw [bef_iff] at this
      rw [bef_no]
      omega
/-! what is known by a number -/
def kentP (p : Pb) : Lit × Value := (.int .i64 (pId p), .pointer (some ⟨p.2.1, 0, none⟩))
abbrev atP (L : List Pb) (id : Int) : Option Pb := getM kentP L (.int .i64 id)
abbrev delP (L : List Pb) (id : Int) : List Pb := delM kentP L (.int .i64 id)
theorem atP_some {L : List Pb} {id : Int} {p : Pb} (h : atP L id = some p) : p ∈ L ∧ pId p = id := by
  have h1 := List.mem_of_find?_eq_some h
  have h2 := List.find?_some h
  simp only [kentP, same_key, decide_eq_true_iff] at h2
  exact ⟨h1, h2⟩
theorem atP_none {L : List Pb} {id : Int} (h : atP L id = none) : ∀ p ∈ L, pId p ≠ id := fun p hp e => by
  have := List.find?_eq_none.1 h p hp
  simp [kentP, same_key, e] at this
theorem mem_delP {L : List Pb} {id : Int} {p : Pb} : p ∈ delP L id ↔ p ∈ L ∧ pId p ≠ id := by
  unfold delP delM
  rw [List.mem_filter]
  simp [kentP, same_key]
def Ids (L : List Pb) : Prop := L.Pairwise fun p q => pId p ≠ pId q
theorem ids_one {L : List Pb} (h : Ids L) {p q : Pb} (hp : p ∈ L) (hq : q ∈ L) (e : pId p = pId q) : p = q := by
  induction L with
  | nil => cases hp
  | cons x r ih =>
    obtain ⟨h1, h2⟩ := List.pairwise_cons.1 h
    rcases List.mem_cons.1 hp with ea | ea <;> rcases List.mem_cons.1 hq with eb | eb
    · rw [ea, eb]
    · rw [ea] at e; exact absurd e (h1 q eb)
    · rw [eb] at e; exact absurd e.symm (h1 p ea)
    · exact ih h2 ea eb
theorem del_mid {a r : List Pb} {x : Pb} (h : Ids (a ++ x :: r)) : delP (a ++ x :: r) (pId x) = a ++ r := by
  obtain ⟨h1, h2, h3⟩ := List.pairwise_append.1 h
  obtain ⟨h4, h5⟩ := List.pairwise_cons.1 h2
  have e1 : a.filter (fun q => !(kentP q).1.sameKey (.int .i64 (pId x))) = a := List.filter_eq_self.2 fun y hy => by
    have := h3 y hy x (by simp); simp [kentP, same_key, this]
  have e2 : r.filter (fun q => !(kentP q).1.sameKey (.int .i64 (pId x))) = r := List.filter_eq_self.2 fun y hy => by
    have := h4 y hy; simp [kentP, same_key]; exact fun e => this e.symm
  unfold delP delM
  rw [List.filter_append, List.filter_cons_of_neg (by simp [kentP, same_key]), e1, e2]
/-- What is known goes with what the document says. -/
structure PInv (L : List Pb) (s : StD) : Prop where
  srt : Srt L
  ids : Ids L
  known : ∀ p ∈ L, s.1 < pTo p ∧ 1 ≤ pSer p ∧ s.2[pSer p - 1]? = some ((pId p, p.1.2.1), p.1.2.2, false)
  all : ∀ (j : Nat) (e : Ev), s.2[j]? = some e → e.2.2 = false → s.1 < e.2.1.2 → ∃ p ∈ L, p.1 = ((e.1.1, j + 1), e.1.2, e.2.1)
theorem PInv.nil : PInv [] (0, []) := ⟨List.Pairwise.nil, List.Pairwise.nil, by simp, by simp⟩
section
variable {L : List Pb} {s : StD}
theorem PInv.kn (h : PInv L s) (id : Int) : kn s.1 id 0 s.2 = (atP L id).map fun p => (pSer p - 1, ((id, p.1.2.1), p.1.2.2, false)) := by
  cases hp : atP L id with
  | none =>
    cases hk : Proofs.YtajelkkiijdegaaGreat.kn s.1 id 0 s.2 with
    | none => rfl
    | some x =>
      exfalso
      obtain ⟨j, e⟩ := x
      obtain ⟨-, g1, g2⟩ := kn_some hk
      obtain ⟨l1, l2, l3⟩ := live_iff.1 g2
      rw [Nat.sub_zero] at g1
      obtain ⟨q, hq, q1⟩ := h.all j e g1 l2 l3
      exact atP_none hp q hq (by unfold pId; rw [q1]; exact l1)
  | some p =>
    obtain ⟨h1, h2⟩ := atP_some hp
    obtain ⟨k1, k2, k3⟩ := h.known p h1
    cases hk : Proofs.YtajelkkiijdegaaGreat.kn s.1 id 0 s.2 with
    | none =>
      have := kn_none hk _ (List.mem_of_getElem? k3)
      rw [(live_iff (e := ((pId p, p.1.2.1), p.1.2.2, false))).2 ⟨h2, rfl, k1⟩] at this
      cases this
    | some x =>
      obtain ⟨j, e⟩ := x
      obtain ⟨-, g1, g2⟩ := kn_some hk
      obtain ⟨l1, l2, l3⟩ := live_iff.1 g2
      rw [Nat.sub_zero] at g1
      obtain ⟨q, hq, q1⟩ := h.all j e g1 l2 l3
      have e1 : q = p := ids_one h.ids hq h1 (by rw [h2]; unfold pId; rw [q1]; exact l1)
      subst e1
      have e2 : pSer q = j + 1 := by unfold pSer; rw [q1]
      simp only [Option.map_some]
      rw [e2, Nat.add_sub_cancel] at k3
      rw [g1] at k3
      rw [e2, Nat.add_sub_cancel, Option.some.inj k3, h2]
def knP (o : Option Pb) : Option (List Vl × Spn) := o.map fun p => (p.1.2.1, p.1.2.2)
theorem PInv.chk (h : PInv L s) (m : PM) : chkD s m = chkO s.1 (knP (atP L m.1.2.1)) m := by
  unfold chkD knP
  rw [h.kn, Option.map_map]
  rfl
/-- What is known then, if the message is taken. -/
def nxP (L : List Pb) (s : StD) (m : PM) (b : Nat) (v : Value) : List Pb :=
  if m.1.1 = 3 then L.drop (ldN (fun y => decide (pTo y ≤ m.1.2.2.1)) L)
  else if m.1.1 = 1 then insP L (((m.1.2.1, s.2.length + 1), m.2, (m.1.2.2.1, m.1.2.2.2)), b, v)
  else match atP L m.1.2.1 with
    | none => L
    | some p => if s.1 < (cut p.1.2.2 m.1.2.2.2).2 then insP (delP L m.1.2.1) (((m.1.2.1, pSer p), p.1.2.1, cut p.1.2.2 m.1.2.2.2), b, v) else delP L m.1.2.1
theorem PInv.take (h : PInv L s) {T : List Ke} (hT : InvF T s) (m : PM) (b : Nat) (v : Value) (h0 : chkD s m = 0) : PInv (nxP L s m b v) (tk s m).1 := by
  have hk := h.kn m.1.2.1
  rw [h.chk] at h0
  obtain ⟨z1, z2, z3, z4⟩ := chkO_zero h0
  unfold mkM at z1
  obtain ⟨⟨k, i, f, t⟩, l⟩ := m
  simp only at *
  rcases mchk_kind z1 with rfl | rfl | rfl
  · obtain ⟨y1, y2, y3, y4, y5⟩ := mchk_one z1
    have hc : s.1 ≤ f := z3 (by decide)
    have hn : atP L i = none := by
      have := z4 rfl
      unfold knP at this
      simpa using this
    unfold nxP tk
    simp only [show ((1 : Int) = 3) = False by simp, if_false, if_true]
    have hser : ∀ p ∈ L, pSer p ≤ s.2.length := fun p hp => by
      obtain ⟨-, k2, k3⟩ := h.known p hp
      have := (List.getElem?_eq_some_iff.1 k3).1
      omega
    generalize hx : ((((i, s.2.length + 1), l, (f, t)), b, v) : Pb) = x
    have x1 : pId x = i := by rw [← hx]; rfl
    have x2 : pSer x = s.2.length + 1 := by rw [← hx]; rfl
    have x3 : pTo x = t := by rw [← hx]; rfl
    refine ⟨insP_srt h.srt fun y hy => ?_, ?_, fun p hp => ?_, fun j e he e2 e3 => ?_⟩
    · have := hser y hy; omega
    · unfold insP
      have hi := h.ids
      rw [← List.take_append_drop (plN L x) L] at hi
      obtain ⟨i1, i2, i3⟩ := List.pairwise_append.1 hi
      refine List.pairwise_append.2 ⟨i1, List.pairwise_cons.2 ⟨fun y hy => ?_, i2⟩, fun y hy z hz => ?_⟩
      · rw [x1]; exact fun e => atP_none hn y (List.mem_of_mem_drop hy) e.symm
      · rcases List.mem_cons.1 hz with rfl | hz
        · rw [x1]; exact atP_none hn y (List.mem_of_mem_take hy)
        · exact i3 y hy z hz
    · rcases mem_insP.1 hp with rfl | hp
      · rw [x3, x2, x1]
        refine ⟨by show s.1 < t; omega, by omega, ?_⟩
        rw [Nat.add_sub_cancel, List.getElem?_append_right (Nat.le_refl _), Nat.sub_self, ← hx]
        rfl
      · obtain ⟨k1, k2, k3⟩ := h.known p hp
        exact ⟨k1, k2, by rw [List.getElem?_append_left (List.getElem?_eq_some_iff.1 k3).1]; exact k3⟩
    · by_cases hj : j < s.2.length
      · rw [List.getElem?_append_left hj] at he
        obtain ⟨q, hq, q1⟩ := h.all j e he e2 e3
        exact ⟨q, mem_insP.2 (.inr hq), q1⟩
      · rw [List.getElem?_append_right (by omega)] at he
        have hj2 : j - s.2.length = 0 := by
          have := (List.getElem?_eq_some_iff.1 he).1
          simp at this; omega
        rw [hj2] at he
        simp only [List.getElem?_cons_zero, Option.some.injEq] at he
        subst he
        exact ⟨x, mem_insP.2 (.inl rfl), by rw [← hx, show j = s.2.length by omega]⟩
  · obtain ⟨y1, y2, y3⟩ := mchk_two z1
    obtain ⟨e, he, u1, u2, u3⟩ := z2 rfl
    obtain ⟨p, hp, rfl⟩ : ∃ p, atP L i = some p ∧ e = (p.1.2.1, p.1.2.2) := by
      unfold knP at he
      cases hq : atP L i with
      | none => rw [hq] at he; cases he
      | some p => rw [hq] at he; exact ⟨p, rfl, (Option.some.inj he).symm⟩
    obtain ⟨hpm, hpi⟩ := atP_some hp
    obtain ⟨g1, g2, g3⟩ := h.known p hpm
    have glt := (List.getElem?_eq_some_iff.1 g3).1
    rw [hp, Option.map_some] at hk
    simp only at u1 u2 u3
    have hsame : ∀ q ∈ L, pId q ≠ i → pSer q ≠ pSer p := fun q hq hne e1 => by
      obtain ⟨-, -, k3⟩ := h.known q hq
      rw [e1, g3] at k3
      have := congrArg (fun o => o.map fun e : Ev => e.1.1) k3
      simp only [Option.map_some, Option.some.injEq] at this
      exact hne (by rw [← this, hpi])
    have hdel : ∀ (E : Ev), (E.1 = (i, p.1.2.1)) → Srt (delP L i) ∧ Ids (delP L i) ∧ (∀ q ∈ delP L i, s.1 < pTo q ∧ 1 ≤ pSer q ∧ (s.2.set (pSer p - 1) E)[pSer q - 1]? = some ((pId q, q.1.2.1), q.1.2.2, false)) ∧
        (∀ (j : Nat) (e : Ev), j ≠ pSer p - 1 → (s.2.set (pSer p - 1) E)[j]? = some e → e.2.2 = false → s.1 < e.2.1.2 → ∃ q ∈ delP L i, q.1 = ((e.1.1, j + 1), e.1.2, e.2.1)) := fun E hE => by
      refine ⟨List.Pairwise.filter _ h.srt, List.Pairwise.filter _ h.ids, fun q hq => ?_, fun j e hj he e2 e3 => ?_⟩
      · obtain ⟨m1, m2⟩ := mem_delP.1 hq
        obtain ⟨k1, k2, k3⟩ := h.known q m1
        refine ⟨k1, k2, ?_⟩
        rw [List.getElem?_set_ne (by have := hsame q m1 m2; omega)]
        exact k3
      · rw [List.getElem?_set_ne (fun e => hj e.symm)] at he
        obtain ⟨q, hq, q1⟩ := h.all j e he e2 e3
        refine ⟨q, mem_delP.2 ⟨hq, fun e1 => ?_⟩, q1⟩
        have := ids_one h.ids hq hpm (by rw [e1, hpi])
        subst this
        have : pSer q = j + 1 := by unfold pSer; rw [q1]
        omega
    unfold nxP tk
    simp only [show ((2 : Int) = 3) = False by simp, show ((2 : Int) = 1) = False by simp, if_false, hk, hp]
    have hc0 := hT.c0.1
    by_cases ht : t = p.1.2.2.1
    · have hcut : cut p.1.2.2 t = (0, 0) := by unfold cut; rw [if_pos ht]
      rw [hcut, if_pos ht]
      simp only
      rw [if_neg (by omega)]
      obtain ⟨d1, d2, d3, d4⟩ := hdel ((i, p.1.2.1), p.1.2.2, true) rfl
      refine ⟨d1, d2, d3, fun j e he e2 e3 => ?_⟩
      by_cases hj : j = pSer p - 1
      · subst hj
        rw [List.getElem?_set_self glt] at he
        obtain rfl := Option.some.inj he
        cases e2
      · exact d4 j e hj he e2 e3
    · have hcut : cut p.1.2.2 t = (p.1.2.2.1, t) := by unfold cut; rw [if_neg ht]
      rw [hcut, if_neg ht]
      simp only
      obtain ⟨d1, d2, d3, d4⟩ := hdel ((i, p.1.2.1), (p.1.2.2.1, t), false) rfl
      by_cases hlt : s.1 < t
      · rw [if_pos hlt]
        generalize hx : ((((i, pSer p), p.1.2.1, (p.1.2.2.1, t)), b, v) : Pb) = x
        have x1 : pId x = i := by rw [← hx]; rfl
        have x2 : pSer x = pSer p := by rw [← hx]; rfl
        have x3 : pTo x = t := by rw [← hx]; rfl
        refine ⟨insP_srt d1 fun y hy => ?_, ?_, fun q hq => ?_, fun j e he e2 e3 => ?_⟩
        · obtain ⟨m1, m2⟩ := mem_delP.1 hy
          have := hsame y m1 m2
          omega
        · unfold insP
          have hi := d2
          rw [← List.take_append_drop (plN (delP L i) x) (delP L i)] at hi
          obtain ⟨i1, i2, i3⟩ := List.pairwise_append.1 hi
          refine List.pairwise_append.2 ⟨i1, List.pairwise_cons.2 ⟨fun y hy => ?_, i2⟩, fun y hy z hz => ?_⟩
          · rw [x1]; exact fun e => (mem_delP.1 (List.mem_of_mem_drop hy)).2 e.symm
          · rcases List.mem_cons.1 hz with rfl | hz
            · rw [x1]; exact (mem_delP.1 (List.mem_of_mem_take hy)).2
            · exact i3 y hy z hz
        · rcases mem_insP.1 hq with rfl | hq
          · rw [x3, x2, x1]
            refine ⟨hlt, g2, ?_⟩
            rw [List.getElem?_set_self glt, ← hx]
          · exact d3 q hq
        · by_cases hj : j = pSer p - 1
          · subst hj
            rw [List.getElem?_set_self glt] at he
            obtain rfl := Option.some.inj he
            refine ⟨x, mem_insP.2 (.inl rfl), ?_⟩
            rw [← hx, Nat.sub_add_cancel g2]
          · obtain ⟨q, hq, q1⟩ := d4 j e hj he e2 e3
            exact ⟨q, mem_insP.2 (.inr hq), q1⟩
      · rw [if_neg hlt]
        refine ⟨d1, d2, d3, fun j e he e2 e3 => ?_⟩
        by_cases hj : j = pSer p - 1
        · subst hj
          rw [List.getElem?_set_self glt] at he
          obtain rfl := Option.some.inj he
          exact absurd e3 hlt
        · exact d4 j e hj he e2 e3
  · have hf := mchk_three z1
    have hc : s.1 ≤ f := z3 (show ¬ (3 : Int) = 2 by decide)
    unfold nxP tk
    simp only [if_true]
    have hd := (ld_both (srt_downT h.srt f)).2
    rw [hd]
    refine ⟨List.Pairwise.filter _ h.srt, List.Pairwise.filter _ h.ids, fun p hp => ?_, fun j e he e2 e3 => ?_⟩
    · obtain ⟨m1, m2⟩ := List.mem_filter.1 hp
      obtain ⟨k1, k2, k3⟩ := h.known p m1
      simp only [Bool.not_eq_true', decide_eq_false_iff_not] at m2
      exact ⟨by simp only; omega, k2, k3⟩
    · simp only at e3 he
      obtain ⟨q, hq, q1⟩ := h.all j e he e2 (by omega)
      refine ⟨q, List.mem_filter.2 ⟨hq, ?_⟩, q1⟩
      simp only [Bool.not_eq_true', decide_eq_false_iff_not]
      unfold pTo
      rw [q1]
      simp only
      omega
end
/-! what a message depends on -/
def bgP : Option Pb → List PM
  | some p => [((1, pId p, p.1.2.2.1, p.1.2.2.2), p.1.2.1)]
  | none => []
def gistP (o : Option Pb) (c : Int) : List PM := bgP o ++ ([((3, 0, c, 0), [])] : List PM)
def gsE : Option Pb → List Ev
  | some p => [((pId p, p.1.2.1), p.1.2.2, false)]
  | none => []
def gstS (o : Option Pb) (c : Int) : StD := (c, gsE o)
theorem gist_mark {c : Int} (h0 : 0 ≤ c) (h1 : c ≤ 1125899906842624) (c0 : Int) (hc0 : c0 ≤ c) (evs : List Ev) : chkD (c0, evs) ((3, 0, c, 0), []) = 0 ∧ stp (c0, evs) ((3, 0, c, 0), []) = (c, evs) := by
  have e0 : mkM ((3, 0, c, 0), []) = 0 := by
    unfold mkM mchk moreB tickE tickB
    simp [h0, h1]
  have e1 : chkD (c0, evs) ((3, 0, c, 0), []) = 0 := by
    unfold chkD chkO
    rw [e0]
    simp
    omega
  refine ⟨e1, ?_⟩
  unfold stp
  rw [if_pos e1]
  rfl
theorem gist_begin {id : Int} {row : List Vl} {sp : Spn} (hr : mayR row = true) (hi : 1 ≤ id ∧ id ≤ 1099511627776) (h0 : 0 ≤ sp.1) (h1 : sp.1 < sp.2) (h2 : sp.2 ≤ 1125899906842624) :
    chkD (0, []) ((1, id, sp.1, sp.2), row) = 0 ∧ stp (0, []) ((1, id, sp.1, sp.2), row) = (0, [((id, row), sp, false)]) := by
  have e0 : mkM ((1, id, sp.1, sp.2), row) = 0 := by
    have b1 : idB id = true := by unfold idB; exact decide_eq_true hi
    have b2 : tickB sp.1 = true := by unfold tickB; exact decide_eq_true (by omega)
    have b3 : tickB sp.2 = true := by unfold tickB; exact decide_eq_true (by omega)
    unfold mkM mchk tickE
    simp only [hr, b1, b2, b3, Bool.and_self, if_true]
    rw [if_neg (by omega)]
  have e1 : chkD (0, []) ((1, id, sp.1, sp.2), row) = 0 := by
    unfold chkD chkO
    rw [e0]
    simp [Proofs.YtajelkkiijdegaaGreat.kn]
    omega
  refine ⟨e1, ?_⟩
  unfold stp
  rw [if_pos e1]
  rfl
theorem gist_run {L : List Pb} {s : StD} (h : PInv L s) {T : List Ke} (hT : InvF T s) (id : Int) : runS (0, []) (gistP (atP L id) s.1) = gstS (atP L id) s.1 := by
  have hc := hT.c0
  unfold gistP gstS
  cases hp : atP L id with
  | none =>
    show stp (0, []) ((3, 0, s.1, 0), []) = _
    exact (gist_mark hc.1 hc.2 0 hc.1 []).2
  | some p =>
    obtain ⟨h1, h2⟩ := atP_some hp
    obtain ⟨k1, k2, k3⟩ := h.known p h1
    obtain ⟨w1, w2, w3, w4, w5, w6⟩ := hT.evs _ (List.mem_of_getElem? k3)
    show stp (stp (0, []) ((1, pId p, p.1.2.2.1, p.1.2.2.2), p.1.2.1)) ((3, 0, s.1, 0), []) = _
    rw [(gist_begin w4 ⟨w5, w6⟩ w1 w2 w3).2]
    exact (gist_mark hc.1 hc.2 0 hc.1 _).2
theorem gist_kn {L : List Pb} {s : StD} (h : PInv L s) (id : Int) : kn s.1 id 0 (gstS (atP L id) s.1).2 = (atP L id).map fun p => (0, ((id, p.1.2.1), p.1.2.2, false)) := by
  unfold gstS
  cases hp : atP L id with
  | none => rfl
  | some p =>
    obtain ⟨h1, h2⟩ := atP_some hp
    obtain ⟨k1, -, -⟩ := h.known p h1
    simp only [Option.map_some]
    rw [show gsE (some p) = [((id, p.1.2.1), p.1.2.2, false)] by rw [← h2]; rfl]
    unfold Proofs.YtajelkkiijdegaaGreat.kn
    rw [if_pos ((live_iff (e := ((id, p.1.2.1), p.1.2.2, false))).2 ⟨rfl, rfl, k1⟩)]
theorem gist_chk {L : List Pb} {s : StD} (h : PInv L s) (m : PM) : chkD (gstS (atP L m.1.2.1) s.1) m = chkD s m := by
  rw [h.chk]
  unfold chkD
  rw [show (gstS (atP L m.1.2.1) s.1).1 = s.1 from rfl, gist_kn h, Option.map_map]
  rfl
/-- The change of a message, by what is known. -/
def chP (L : List Pb) (m : PM) : Ch :=
  if m.1.1 = 1 then (1, m.2, (0, 0), (m.1.2.2.1, m.1.2.2.2))
  else match atP L m.1.2.1 with
    | none => zCh
    | some p => (1, p.1.2.1, p.1.2.2, cut p.1.2.2 m.1.2.2.2)
theorem gist_chg {L : List Pb} {s : StD} (h : PInv L s) (m : PM) (h0 : chkD s m = 0) (h3 : m.1.1 ≠ 3) : chg (gstS (atP L m.1.2.1) s.1) m = chP L m := by
  unfold chg
  rw [gist_chk h, if_pos h0]
  unfold tk chP
  rw [if_neg h3]
  by_cases h1 : m.1.1 = 1
  · rw [if_pos h1, if_pos h1]
    have hn : atP L m.1.2.1 = none := by
      rw [h.chk] at h0
      have := (chkO_zero h0).2.2.2 h1
      unfold knP at this
      simpa using this
    rw [hn]
    rfl
  · rw [if_neg h1, if_neg h1, show (gstS (atP L m.1.2.1) s.1).1 = s.1 from rfl, gist_kn h]
    cases hp : atP L m.1.2.1 with
    | none => rfl
    | some p => rfl
theorem runE_last {g : List PM} {s1 : StD} (hr : runS (0, []) g = s1) (m : PM) : (runE (0, []) (g ++ [m])).getLast? = some (chkD s1 m) := by
  rw [runE_app, hr]
  show (runE (0, []) g ++ [chkD s1 m]).getLast? = _
  simp
theorem runC_last {g : List PM} {s1 : StD} (hr : runS (0, []) g = s1) (m : PM) (h0 : chkD s1 m = 0) (h3 : m.1.1 ≠ 3) : (runC (0, []) (g ++ [m])).getLast? = some (chg s1 m) := by
  rw [runC_app, hr]
  show (runC (0, []) g ++ ((if isC s1 m then [chg s1 m] else []) ++ [])).getLast? = _
  rw [if_pos (by unfold isC; exact decide_eq_true ⟨h0, h3⟩)]
  simp
/-- A past's serial, and what a message's change is by the document. -/
theorem tk_serial {L : List Pb} {s : StD} (h : PInv L s) (m : PM) (h0 : chkD s m = 0) (h3 : m.1.1 ≠ 3) : (tk s m).2 = ((match atP L m.1.2.1 with | some p => pSer p | none => s.2.length + 1), (chP L m).2) := by
  have hk := h.kn m.1.2.1
  unfold tk chP
  rw [if_neg h3]
  by_cases h1 : m.1.1 = 1
  · rw [if_pos h1, if_pos h1]
    have hn : atP L m.1.2.1 = none := by
      rw [h.chk] at h0
      have := (chkO_zero h0).2.2.2 h1
      unfold knP at this
      simpa using this
    rw [hn]
  · rw [if_neg h1, if_neg h1, hk]
    cases hp : atP L m.1.2.1 with
    | none =>
      rw [h.chk, hp] at h0
      unfold knP at h0
      obtain ⟨z1, z2, -⟩ := chkO_zero h0
      unfold mkM at z1
      rcases mchk_kind z1 with e | e | e
      · exact absurd e h1
      · obtain ⟨_, he, -⟩ := z2 e; cases he
      · exact absurd e h3
    | some p =>
      obtain ⟨k1, k2, k3⟩ := h.known p (atP_some hp).1
      simp only [Option.map_some]
      rw [Nat.sub_add_cancel k2]
end Go.Proofs.YtajelkkiijdegaaGreat
