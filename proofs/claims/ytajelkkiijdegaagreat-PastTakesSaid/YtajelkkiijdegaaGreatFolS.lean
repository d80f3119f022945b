/-
  A helper of ours: no claim of its own. Layer 13 (fold), on lists: what messages, one after another, amount to; what the code keeps of them.
-/
import Derived.Test.YtajelkkiijdegaaGreatMsgA
import Derived.Test.YtajelkkiijdegaaGreatMapV
set_option linter.unusedVariables false
set_option linter.unusedSimpArgs false
namespace Go.Proofs.YtajelkkiijdegaaGreat
open Go.RowKit
/-- A message: kind, number, first tick, last tick; its row. -/
abbrev PM := (Int × Int × Int × Int) × List Vl
abbrev Spn := Int × Int
/-- An event: its number and row, its lifetime, whether it was cancelled. -/
abbrev Ev := (Int × List Vl) × Spn × Bool
/-- A change: the event's serial, its row, its lifetime before and then. -/
abbrev Ch := Nat × List Vl × Spn × Spn
abbrev StD := Int × List Ev
def zCh : Ch := (0, [], (0, 0), (0, 0))
def mkM (m : PM) : Int := mchk m.1.1 m.1.2.1 m.1.2.2.1 m.1.2.2.2 m.2
def liveE (c id : Int) (e : Ev) : Bool := decide (e.1.1 = id) && (!e.2.2 && decide (c < e.2.1.2))
def kn (c id : Int) : Nat → List Ev → Option (Nat × Ev)
  | _, [] => none
  | i, e :: r => if liveE c id e then some (i, e) else kn c id (i + 1) r
def chkO (c : Int) (o : Option (List Vl × Spn)) (m : PM) : Int :=
  if mkM m ≠ 0 then mkM m
  else if m.1.1 = 2 then (match o with
    | none => 8
    | some e => if e.2.2 ≤ m.1.2.2.2 then 15 else if m.1.2.2.2 < e.2.1 then 14 else if m.1.2.2.2 < c then 16 else 0)
  else if m.1.2.2.1 < c then 16
  else if m.1.1 = 1 ∧ o.isSome then 9 else 0
def chkD (s : StD) (m : PM) : Int := chkO s.1 ((kn s.1 m.1.2.1 0 s.2).map fun x => (x.2.1.2, x.2.2.1)) m
def cut (o : Spn) (t : Int) : Spn := if t = o.1 then (0, 0) else (o.1, t)
def tk (s : StD) (m : PM) : StD × Ch :=
  if m.1.1 = 3 then ((m.1.2.2.1, s.2), zCh)
  else if m.1.1 = 1 then ((s.1, s.2 ++ [((m.1.2.1, m.2), (m.1.2.2.1, m.1.2.2.2), false)]), (s.2.length + 1, m.2, (0, 0), (m.1.2.2.1, m.1.2.2.2)))
  else match kn s.1 m.1.2.1 0 s.2 with
    | none => (s, zCh)
    | some (j, e) => ((s.1, s.2.set j (if m.1.2.2.2 = e.2.1.1 then (e.1, e.2.1, true) else (e.1, (e.2.1.1, m.1.2.2.2), false))), (j + 1, e.1.2, e.2.1, cut e.2.1 m.1.2.2.2))
def stp (s : StD) (m : PM) : StD := if chkD s m = 0 then (tk s m).1 else s
def chg (s : StD) (m : PM) : Ch := if chkD s m = 0 then (tk s m).2 else zCh
def runS : StD → List PM → StD
  | s, [] => s
  | s, m :: r => runS (stp s m) r
def runE : StD → List PM → List Int
  | _, [] => []
  | s, m :: r => chkD s m :: runE (stp s m) r
def isC (s : StD) (m : PM) : Bool := decide (chkD s m = 0 ∧ m.1.1 ≠ 3)
def runC : StD → List PM → List Ch
  | _, [] => []
  | s, m :: r => (if isC s m then [chg s m] else []) ++ runC (stp s m) r
theorem runS_app : ∀ (a b : List PM) (s : StD), runS s (a ++ b) = runS (runS s a) b
  | [], _, _ => rfl
  | m :: a, b, s => runS_app a b (stp s m)
theorem runE_app : ∀ (a b : List PM) (s : StD), runE s (a ++ b) = runE s a ++ runE (runS s a) b
  | [], _, _ => rfl
  | m :: a, b, s => by show chkD s m :: runE (stp s m) (a ++ b) = _; rw [runE_app a b]; rfl
theorem runC_app : ∀ (a b : List PM) (s : StD), runC s (a ++ b) = runC s a ++ runC (runS s a) b
  | [], _, _ => rfl
  | m :: a, b, s => by show (if isC s m then [chg s m] else []) ++ runC (stp s m) (a ++ b) = _; rw [runC_app a b, ← List.append_assoc]; rfl
theorem take_one {α : Type} {l : List α} {k : Nat} {x : α} (h : l[k]? = some x) : l.take (k + 1) = l.take k ++ [x] := by rw [List.take_add_one, h]; rfl
theorem runS_take {l : List PM} {k : Nat} {m : PM} (h : l[k]? = some m) (s : StD) : runS s (l.take (k + 1)) = stp (runS s (l.take k)) m := by rw [take_one h, runS_app]; rfl
theorem runE_take {l : List PM} {k : Nat} {m : PM} (h : l[k]? = some m) (s : StD) : runE s (l.take (k + 1)) = runE s (l.take k) ++ [chkD (runS s (l.take k)) m] := by rw [take_one h, runE_app]; rfl
theorem runC_take {l : List PM} {k : Nat} {m : PM} (h : l[k]? = some m) (s : StD) : runC s (l.take (k + 1)) = runC s (l.take k) ++ (if isC (runS s (l.take k)) m then [chg (runS s (l.take k)) m] else []) := by rw [take_one h, runC_app]; simp [runC]
theorem runE_len : ∀ (l : List PM) (s : StD), (runE s l).length = l.length
  | [], _ => rfl
  | m :: r, s => by show (runE (stp s m) r).length + 1 = _; rw [runE_len r]; rfl
theorem runC_len : ∀ (l : List PM) (s : StD), (runC s l).length ≤ l.length
  | [], _ => Nat.le_refl _
  | m :: r, s => by
    show ((if isC s m then [chg s m] else []) ++ runC (stp s m) r).length ≤ _
    have := runC_len r (stp s m)
    split <;> simp <;> omega
/-! what is wrong with a message -/
theorem mchk_kind {k i f t : Int} {l : List Vl} (h : mchk k i f t l = 0) : k = 1 ∨ k = 2 ∨ k = 3 := by
  unfold mchk at h
  by_cases h1 : k = 1
  · exact .inl h1
  by_cases h2 : k = 2
  · exact .inr (.inl h2)
  by_cases h3 : k = 3
  · exact .inr (.inr h3)
  rw [if_neg h1, if_neg h2, if_neg h3] at h
  cases h
theorem tickE_nul {k f t : Int} (h : tickE k f t = 0) : (0 ≤ f ∧ f ≤ 1125899906842624) ∧ (0 ≤ t ∧ t ≤ 1125899906842624) ∧ (k = 1 → f < t) := by
  unfold tickE at h
  split at h
  · rename_i hb
    obtain ⟨h1, h2⟩ := Bool.and_eq_true_iff.1 hb
    split at h
    · cases h
    · exact ⟨tick_yes h1, tick_yes h2, fun hk => by omega⟩
  · cases h
theorem mchk_one {i f t : Int} {l : List Vl} (h : mchk 1 i f t l = 0) : mayR l = true ∧ (1 ≤ i ∧ i ≤ 1099511627776) ∧ 0 ≤ f ∧ f < t ∧ t ≤ 1125899906842624 := by
  unfold mchk at h
  rw [if_pos rfl] at h
  split at h
  · rename_i hb
    obtain ⟨h1, h2⟩ := Bool.and_eq_true_iff.1 hb
    obtain ⟨k1, k2, k3⟩ := tickE_nul h
    exact ⟨h1, id_yes h2, k1.1, k3 rfl, k2.2⟩
  · cases h
theorem mchk_two {i f t : Int} {l : List Vl} (h : mchk 2 i f t l = 0) : (1 ≤ i ∧ i ≤ 1099511627776) ∧ 0 ≤ t ∧ t ≤ 1125899906842624 := by
  unfold mchk at h
  rw [if_neg (by decide), if_pos rfl] at h
  split at h
  · rename_i hb
    obtain ⟨h1, h2⟩ := Bool.and_eq_true_iff.1 hb
    obtain ⟨k1, k2, k3⟩ := tickE_nul h
    exact ⟨id_yes h1, k2⟩
  · cases h
theorem mchk_three {i f t : Int} {l : List Vl} (h : mchk 3 i f t l = 0) : (0 ≤ f ∧ f ≤ 1125899906842624) := by
  unfold mchk at h
  rw [if_neg (by decide), if_neg (by decide), if_pos rfl] at h
  split at h
  · cases h
  · exact (tickE_nul h).1
theorem chkO_zero {c : Int} {o : Option (List Vl × Spn)} {m : PM} (h : chkO c o m = 0) : mkM m = 0 ∧ (m.1.1 = 2 → ∃ e, o = some e ∧ m.1.2.2.2 < e.2.2 ∧ e.2.1 ≤ m.1.2.2.2 ∧ c ≤ m.1.2.2.2) ∧ (m.1.1 ≠ 2 → c ≤ m.1.2.2.1) ∧ (m.1.1 = 1 → o = none) := by
  unfold chkO at h
  by_cases h0 : mkM m = 0
  · rw [if_neg (by simpa using h0)] at h
    by_cases h2 : m.1.1 = 2
    · rw [if_pos h2] at h
      refine ⟨h0, fun _ => ?_, fun hn => absurd h2 hn, fun h1 => by rw [h2] at h1; cases h1⟩
      cases o with
      | none => cases h
      | some e =>
        simp only at h
        split at h
        · cases h
        · split at h
          · cases h
          · split at h
            · cases h
            · exact ⟨e, rfl, by omega, by omega, by omega⟩
    · rw [if_neg h2] at h
      split at h
      · cases h
      · split at h
        · cases h
        · rename_i hlt hn
          refine ⟨h0, fun hh => absurd hh h2, fun _ => by omega, fun h1 => ?_⟩
          cases o with
          | none => rfl
          | some e => exact absurd ⟨h1, rfl⟩ hn
  · rw [if_pos (by simpa using h0)] at h
    exact absurd h h0
/-! which event is known -/
theorem kn_some {c id : Int} : ∀ {l : List Ev} {i j : Nat} {e : Ev}, kn c id i l = some (j, e) → i ≤ j ∧ l[j - i]? = some e ∧ liveE c id e = true
  | [], _, _, _, h => by cases h
  | x :: r, i, j, e, h => by
    unfold kn at h
    split at h
    · rename_i hl
      simp only [Option.some.injEq, Prod.mk.injEq] at h
      obtain ⟨rfl, rfl⟩ := h
      exact ⟨Nat.le_refl _, by simp, hl⟩
    · obtain ⟨k1, k2, k3⟩ := kn_some h
      refine ⟨by omega, ?_, k3⟩
      rw [show j - i = (j - (i + 1)) + 1 by omega, List.getElem?_cons_succ]
      exact k2
theorem kn_none {c id : Int} : ∀ {l : List Ev} {i : Nat}, kn c id i l = none → ∀ e ∈ l, liveE c id e = false
  | [], _, _, e, he => by cases he
  | x :: r, i, h, e, he => by
    unfold kn at h
    split at h
    · cases h
    · rename_i hl
      rcases List.mem_cons.1 he with rfl | he
      · simpa using hl
      · exact kn_none h e he
theorem live_iff {c id : Int} {e : Ev} : liveE c id e = true ↔ e.1.1 = id ∧ e.2.2 = false ∧ c < e.2.1.2 := by
  unfold liveE
  simp only [Bool.and_eq_true, decide_eq_true_iff, Bool.not_eq_true']
/-! what the code keeps -/
/-- An entry: the slice of its row, its event's number, the event's last change. -/
abbrev Ke := Value × Int × Ch
def chO (v : Value) (c : Ch) : List Value := [.int .i64 c.1, v, .int .i64 c.2.2.1.1, .int .i64 c.2.2.1.2, .int .i64 c.2.2.2.1, .int .i64 c.2.2.2.2]
abbrev chV (v : Value) (c : Ch) : Value := .agg #[.int .i64 c.1, v, .int .i64 c.2.2.1.1, .int .i64 c.2.2.1.2, .int .i64 c.2.2.2.1, .int .i64 c.2.2.2.2]
def kent (p : Ke) : Lit × Value := (.int .i64 p.2.1, chV p.1 p.2.2)
abbrev atK (T : List Ke) (id : Int) : Option Ke := getM kent T (.int .i64 id)
abbrev delK (T : List Ke) (id : Int) : List Ke := delM kent T (.int .i64 id)
theorem same_key (a b : Int) : (Lit.int .i64 a).sameKey (.int .i64 b) = decide (a = b) := by
  simp [Lit.sameKey]
theorem atK_some {T : List Ke} {id : Int} {p : Ke} (h : atK T id = some p) : p ∈ T ∧ p.2.1 = id := by
  have h1 := List.mem_of_find?_eq_some h
  have h2 := List.find?_some h
  simp only [kent, same_key, decide_eq_true_iff] at h2
  exact ⟨h1, h2⟩
theorem atK_none {T : List Ke} {id : Int} (h : atK T id = none) : ∀ p ∈ T, p.2.1 ≠ id := fun p hp e => by
  have := List.find?_eq_none.1 h p hp
  simp [kent, same_key, e] at this
def apartI (T : List Ke) : Prop := T.Pairwise fun p q => p.2.1 ≠ q.2.1
theorem atK_mem {T : List Ke} (hT : apartI T) {p : Ke} (hp : p ∈ T) : atK T p.2.1 = some p := by
  cases h : atK T p.2.1 with
  | none => exact absurd rfl (atK_none h p hp)
  | some q =>
    obtain ⟨h1, h2⟩ := atK_some h
    by_cases e : q = p
    · rw [e]
    · exfalso
      have : ∀ {l : List Ke}, l.Pairwise (fun p q => p.2.1 ≠ q.2.1) → ∀ a ∈ l, ∀ b ∈ l, a ≠ b → a.2.1 ≠ b.2.1 := by
        intro l hl
        induction l with
        | nil => intro a ha; cases ha
        | cons x l ih =>
          obtain ⟨k1, k2⟩ := List.pairwise_cons.1 hl
          intro a ha b hb hab
          rcases List.mem_cons.1 ha with ea | ea <;> rcases List.mem_cons.1 hb with eb | eb
          · exact absurd (ea.trans eb.symm) hab
          · rw [ea]; exact k1 b eb
          · rw [eb]; exact fun h => k1 a ea h.symm
          · exact ih k2 a ea b eb hab
      exact this hT q h1 p hp e h2
theorem mem_delK {T : List Ke} {id : Int} {p : Ke} : p ∈ delK T id ↔ p ∈ T ∧ p.2.1 ≠ id := by
  unfold delK delM
  rw [List.mem_filter]
  simp [kent, same_key]
theorem delK_apart {T : List Ke} (h : apartI T) (id : Int) : apartI (delK T id) := List.Pairwise.filter _ h
theorem putK_apart {T : List Ke} (h : apartI T) (x : Ke) : apartI (putM kent T x) := by
  refine List.pairwise_cons.2 ⟨fun q hq => ?_, delK_apart h x.2.1⟩
  exact Ne.symm (mem_delK.1 (show q ∈ delK T x.2.1 from hq)).2
def freeK (T : List Ke) (c id : Int) : List Ke := match atK T id with
  | some p => if p.2.2.2.2.2.2 ≤ c then delK T id else T
  | none => T
/-- What the code keeps goes with what the document says. -/
structure InvF (T : List Ke) (s : StD) : Prop where
  apart : apartI T
  known : ∀ p ∈ T, s.1 < p.2.2.2.2.2.2 → 1 ≤ p.2.2.1 ∧ s.2[p.2.2.1 - 1]? = some ((p.2.1, p.2.2.2.1), p.2.2.2.2.2, false)
  all : ∀ (j : Nat) (e : Ev), s.2[j]? = some e → e.2.2 = false → s.1 < e.2.1.2 → ∃ p ∈ T, p.2.1 = e.1.1 ∧ p.2.2.1 = j + 1 ∧ p.2.2.2.1 = e.1.2 ∧ p.2.2.2.2.2 = e.2.1
  good : ∀ p ∈ T, p.2.2.1 ≤ s.2.length
  c0 : 0 ≤ s.1 ∧ s.1 ≤ 1125899906842624
  evs : ∀ e ∈ s.2, 0 ≤ e.2.1.1 ∧ e.2.1.1 < e.2.1.2 ∧ e.2.1.2 ≤ 1125899906842624 ∧ mayR e.1.2 = true ∧ 1 ≤ e.1.1 ∧ e.1.1 ≤ 1099511627776
theorem InvF.nil : InvF [] (0, []) := ⟨List.Pairwise.nil, by simp, by simp, by simp, by decide, by simp⟩
section
variable {T : List Ke} {s : StD}
theorem InvF.kn_live (h : InvF T s) {id : Int} {p : Ke} (hp : atK T id = some p) (hl : s.1 < p.2.2.2.2.2.2) : kn s.1 id 0 s.2 = some (p.2.2.1 - 1, ((id, p.2.2.2.1), p.2.2.2.2.2, false)) := by
  obtain ⟨h1, rfl⟩ := atK_some hp
  obtain ⟨k1, k2⟩ := h.known p h1 hl
  cases hk : kn s.1 p.2.1 0 s.2 with
  | none =>
    have := kn_none hk _ (List.mem_of_getElem? k2)
    rw [(live_iff (e := ((p.2.1, p.2.2.2.1), p.2.2.2.2.2, false))).2 ⟨rfl, rfl, hl⟩] at this
    cases this
  | some x =>
    obtain ⟨j, e⟩ := x
    obtain ⟨-, g1, g2⟩ := kn_some hk
    obtain ⟨l1, l2, l3⟩ := live_iff.1 g2
    rw [Nat.sub_zero] at g1
    obtain ⟨q, hq, q1, q2, q3, q4⟩ := h.all j e g1 l2 l3
    have e1 : atK T q.2.1 = some q := atK_mem h.apart hq
    rw [q1, l1, hp] at e1
    obtain rfl := Option.some.inj e1
    obtain ⟨⟨e1, e2⟩, e3, e4⟩ := e
    simp only at l1 l2 q1 q2 q3 q4
    subst l1; subst l2; subst q3; subst q4
    rw [show j = p.2.2.1 - 1 by omega]
theorem InvF.kn_dead (h : InvF T s) {id : Int} (hd : ∀ p, atK T id = some p → p.2.2.2.2.2.2 ≤ s.1) : kn s.1 id 0 s.2 = none := by
  cases hk : kn s.1 id 0 s.2 with
  | none => rfl
  | some x =>
    exfalso
    obtain ⟨j, e⟩ := x
    obtain ⟨-, g1, g2⟩ := kn_some hk
    obtain ⟨l1, l2, l3⟩ := live_iff.1 g2
    rw [Nat.sub_zero] at g1
    obtain ⟨q, hq, q1, q2, q3, q4⟩ := h.all j e g1 l2 l3
    have e1 := atK_mem h.apart hq
    rw [q1, l1] at e1
    have := hd q e1
    rw [q4] at this
    omega
/-- What is known of a number, once it was freed. -/
theorem InvF.free (h : InvF T s) (id : Int) : InvF (freeK T s.1 id) s ∧ (∀ p, atK (freeK T s.1 id) id = some p → s.1 < p.2.2.2.2.2.2) := by
  have hdel : ∀ p, atK T id = some p → p.2.2.2.2.2.2 ≤ s.1 → InvF (delK T id) s := fun p hp hle => by
    refine ⟨delK_apart h.apart id, fun q hq => h.known q (mem_delK.1 hq).1, fun j e he h2 h3 => ?_, fun q hq => h.good q (mem_delK.1 hq).1, h.c0, h.evs⟩
    obtain ⟨q, hq, q1, q2, q3, q4⟩ := h.all j e he h2 h3
    refine ⟨q, mem_delK.2 ⟨hq, fun e1 => ?_⟩, q1, q2, q3, q4⟩
    have := atK_mem h.apart hq
    rw [e1, hp] at this
    obtain rfl := Option.some.inj this
    rw [q4] at hle
    omega
  unfold freeK
  cases hp : atK T id with
  | none => exact ⟨h, fun p hq => by rw [hp] at hq; cases hq⟩
  | some p =>
    simp only
    split
    · rename_i hle
      refine ⟨hdel p hp hle, fun q hq => ?_⟩
      obtain ⟨k1, k2⟩ := atK_some hq
      exact absurd k2 (mem_delK.1 k1).2
    · rename_i hle
      refine ⟨h, fun q hq => ?_⟩
      rw [hp] at hq
      obtain rfl := Option.some.inj hq
      omega
theorem InvF.kn_free (h : InvF T s) (id : Int) : kn s.1 id 0 s.2 = (atK (freeK T s.1 id) id).map fun p => (p.2.2.1 - 1, ((id, p.2.2.2.1), p.2.2.2.2.2, false)) := by
  obtain ⟨h1, h2⟩ := h.free id
  cases hp : atK (freeK T s.1 id) id with
  | none => exact h1.kn_dead (fun p hq => by rw [hp] at hq; cases hq)
  | some p => exact h1.kn_live hp (h2 p hp)
def knK (o : Option Ke) : Option (List Vl × Spn) := o.map fun p => (p.2.2.2.1, p.2.2.2.2.2)
theorem InvF.chk (h : InvF T s) (m : PM) : chkD s m = chkO s.1 (knK (atK (freeK T s.1 m.1.2.1) m.1.2.1)) m := by
  unfold chkD
  rw [h.kn_free, Option.map_map]
  rfl
/-- What the code keeps then, if the message is taken. -/
def accK (T1 : List Ke) (n : Nat) (v : Value) (m : PM) : List Ke :=
  if m.1.1 = 3 then T1
  else if m.1.1 = 1 then putM kent T1 (v, m.1.2.1, (n + 1, m.2, (0, 0), (m.1.2.2.1, m.1.2.2.2)))
  else match atK T1 m.1.2.1 with
    | none => T1
    | some p => putM kent T1 (p.1, m.1.2.1, (p.2.2.1, p.2.2.2.1, p.2.2.2.2.2, cut p.2.2.2.2.2 m.1.2.2.2))
theorem InvF.take (h : InvF T s) (m : PM) (v : Value) (h0 : chkD s m = 0) : InvF (accK (freeK T s.1 m.1.2.1) s.2.length v m) (tk s m).1 := by
  obtain ⟨h1, h2⟩ := h.free m.1.2.1
  have hk := h.kn_free m.1.2.1
  rw [h.chk] at h0
  obtain ⟨z1, z2, z3, z4⟩ := chkO_zero h0
  unfold mkM at z1
  obtain ⟨⟨k, i, f, t⟩, l⟩ := m
  simp only at *
  generalize freeK T s.1 i = T1 at *
  rcases mchk_kind z1 with rfl | rfl | rfl
  · obtain ⟨y1, y2, y3, y4, y5⟩ := mchk_one z1
    have hn : atK T1 i = none := by
      have := z4 rfl
      unfold knK at this
      simpa using this
    unfold accK tk
    simp only [show ((1 : Int) = 3) = False by simp, if_false, if_true]
    refine ⟨putK_apart h1.apart _, fun p hp hl => ?_, fun j e he e2 e3 => ?_, fun p hp => ?_, h1.c0, fun e he => ?_⟩
    · rcases List.mem_cons.1 hp with rfl | hp
      · exact ⟨by simp, by simp⟩
      · have hp1 := (mem_delK.1 (show p ∈ delK T1 i from hp)).1
        obtain ⟨g1, g2⟩ := h1.known p hp1 hl
        have := (List.getElem?_eq_some_iff.1 g2).1
        exact ⟨g1, by rw [List.getElem?_append_left this]; exact g2⟩
    · by_cases hj : j < s.2.length
      · rw [List.getElem?_append_left hj] at he
        obtain ⟨q, hq, q1, q2, q3, q4⟩ := h1.all j e he e2 e3
        refine ⟨q, List.mem_cons_of_mem _ (show q ∈ delK T1 i from mem_delK.2 ⟨hq, fun e1 => ?_⟩), q1, q2, q3, q4⟩
        exact atK_none hn q hq e1
      · rw [List.getElem?_append_right (by omega)] at he
        have hj2 : j - s.2.length = 0 := by
          have := (List.getElem?_eq_some_iff.1 he).1
          simp at this; omega
        rw [hj2] at he
        simp only [List.getElem?_cons_zero, Option.some.injEq] at he
        subst he
        exact ⟨_, List.mem_cons_self .., rfl, by simp; omega, rfl, rfl⟩
    · rw [List.length_append, List.length_singleton]
      rcases List.mem_cons.1 hp with rfl | hp
      · exact Nat.le_refl _
      · have := h1.good p (mem_delK.1 (show p ∈ delK T1 i from hp)).1
        omega
    · rcases List.mem_append.1 he with he | he
      · exact h1.evs e he
      · simp only [List.mem_singleton] at he
        subst he
        exact ⟨y3, y4, y5, y1, y2.1, y2.2⟩
  · obtain ⟨y1, y2, y3⟩ := mchk_two z1
    obtain ⟨e, he, u1, u2, u3⟩ := z2 rfl
    have hp : ∃ p, atK T1 i = some p ∧ e = (p.2.2.2.1, p.2.2.2.2.2) := by
      unfold knK at he
      cases hq : atK T1 i with
      | none => rw [hq] at he; cases he
      | some p => rw [hq] at he; exact ⟨p, rfl, (Option.some.inj he).symm⟩
    obtain ⟨p, hp, rfl⟩ := hp
    have hl := h2 p hp
    obtain ⟨hpm, hpi⟩ := atK_some hp
    obtain ⟨g1, g2⟩ := h1.known p hpm hl
    have glt := (List.getElem?_eq_some_iff.1 g2).1
    have gev := h1.evs _ (List.mem_of_getElem? g2)
    rw [hp, Option.map_some] at hk
    unfold accK tk
    simp only [show ((2 : Int) = 3) = False by simp, show ((2 : Int) = 1) = False by simp, if_false, hk, hp]
    simp only at u1 u2 u3
    generalize hE : (if t = p.2.2.2.2.2.1 then ((i, p.2.2.2.1), p.2.2.2.2.2, true) else ((i, p.2.2.2.1), (p.2.2.2.2.2.1, t), false) : Ev) = E
    have hE1 : E.1 = (i, p.2.2.2.1) := by rw [← hE]; split <;> rfl
    refine ⟨putK_apart h1.apart _, fun q hq hql => ?_, fun j e he e2 e3 => ?_, fun q hq => ?_, h1.c0, fun e he => ?_⟩
    · rcases List.mem_cons.1 hq with rfl | hq
      · simp only at hql ⊢
        refine ⟨g1, ?_⟩
        rw [List.getElem?_set_self glt]
        unfold cut at hql ⊢
        split at hql
        · simp only at hql
          have := h1.c0.1
          omega
        · rename_i ht
          rw [if_neg ht] at hE ⊢
          rw [← hE]
      · obtain ⟨m1, m2⟩ := mem_delK.1 (show q ∈ delK T1 i from hq)
        obtain ⟨r1, r2⟩ := h1.known q m1 hql
        refine ⟨r1, ?_⟩
        rw [List.getElem?_set_ne (fun e1 => ?_)]
        · exact r2
        · rw [← e1, g2] at r2
          have r3 := Option.some.inj r2
          injection r3 with r4 r5
          injection r4 with r6 r7
          exact m2 (by rw [← r6]; exact hpi)
    · by_cases hj : p.2.2.1 - 1 = j
      · subst hj
        rw [List.getElem?_set_self glt] at he
        obtain rfl := Option.some.inj he
        refine ⟨_, List.mem_cons_self .., by rw [hE1], by simp only; omega, by rw [hE1], ?_⟩
        simp only
        unfold cut
        split at hE
        · rw [← hE] at e2; cases e2
        · rename_i ht
          rw [if_neg ht, ← hE]
      · rw [List.getElem?_set_ne hj] at he
        obtain ⟨q, hq, q1, q2, q3, q4⟩ := h1.all j e he e2 e3
        refine ⟨q, List.mem_cons_of_mem _ (show q ∈ delK T1 i from mem_delK.2 ⟨hq, fun e1 => ?_⟩), q1, q2, q3, q4⟩
        have := atK_mem h1.apart hq
        rw [e1, hp] at this
        obtain rfl := Option.some.inj this
        omega
    · rw [List.length_set]
      rcases List.mem_cons.1 hq with rfl | hq
      · simp only; omega
      · exact h1.good q (mem_delK.1 (show q ∈ delK T1 i from hq)).1
    · rcases List.mem_or_eq_of_mem_set he with he | rfl
      · exact h1.evs e he
      · obtain ⟨w1, w2, w3, w4, w5, w6⟩ := gev
        simp only at w1 w2 w3 w4 w5 w6
        rw [hpi] at w5 w6
        rw [← hE]
        split
        · exact ⟨w1, w2, w3, w4, w5, w6⟩
        · exact ⟨w1, by simp only; omega, by simp only; omega, w4, w5, w6⟩
  · have hf := mchk_three z1
    have hc : s.1 ≤ f := z3 (show ¬ (3 : Int) = 2 by decide)
    unfold accK tk
    show InvF T1 (f, s.2)
    exact ⟨h1.apart, fun p hp hl => h1.known p hp (by simp only at hl; omega), fun j e he e2 e3 => h1.all j e he e2 (by simp only at e3; omega), h1.good, hf, h1.evs⟩
/-- The change, told by what the code keeps. -/
theorem InvF.change (h : InvF T s) (m : PM) (h0 : chkD s m = 0) : (tk s m).2 = if m.1.1 = 3 then zCh else if m.1.1 = 1 then (s.2.length + 1, m.2, (0, 0), (m.1.2.2.1, m.1.2.2.2)) else match atK (freeK T s.1 m.1.2.1) m.1.2.1 with
    | none => zCh
    | some p => (p.2.2.1, p.2.2.2.1, p.2.2.2.2.2, cut p.2.2.2.2.2 m.1.2.2.2) := by
  obtain ⟨h1, h2⟩ := h.free m.1.2.1
  have hk := h.kn_free m.1.2.1
  unfold tk
  split
  · rfl
  · split
    · rfl
    · rw [hk]
      cases hp : atK (freeK T s.1 m.1.2.1) m.1.2.1 with
      | none => rfl
      | some p =>
        obtain ⟨g1, g2⟩ := h1.known p (atK_some hp).1 (h2 p hp)
        simp only [Option.map_some]
        rw [Nat.sub_add_cancel g1]
theorem InvF.step (h : InvF T s) (m : PM) (v : Value) : InvF (if chkD s m = 0 then accK (freeK T s.1 m.1.2.1) s.2.length v m else freeK T s.1 m.1.2.1) (stp s m) := by
  unfold stp
  split
  · rename_i h0; exact h.take m v h0
  · exact (h.free m.1.2.1).1
end
end Go.Proofs.YtajelkkiijdegaaGreat
