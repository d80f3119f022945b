/-
  A helper of ours: no claim of its own. A map in memory as a list of its entries, in any order; what lookup, update, delete and range make of it, whatever the elements.
-/
import Derived.Test.YtljkneajdndgjaaGreatSnaS
import Derived.Test.YtljkneajdndgjaaGreatIdx
import Derived.Test.YtljkneajdndgjaaGreatEdgFx
import Derived.Maps.RangeWalk
import Derived.Maps.OwnSet
set_option linter.unusedVariables false
set_option linter.unusedSimpArgs false
namespace Go.Proofs.YtljkneajdndgjaaGreat
open Go.RowKit
/-- A copy as it lies: its row's slice, and the copy. -/
abbrev Vc := Value × Cp
def cc1 (p : Vc) : List Value := [p.1, .int .i64 p.2.2]
def cc (L : List Vc) : List Value := L.flatMap cc1
abbrev cps (L : List Vc) : List Cp := L.map Prod.snd
theorem cc_cons (p : Vc) (L : List Vc) : cc (p :: L) = cc1 p ++ cc L := by simp [cc]
theorem cc_append (L M : List Vc) : cc (L ++ M) = cc L ++ cc M := by simp [cc]
theorem cc_get : ∀ (L : List Vc) (i : Nat) (p : Vc), L[i]? = some p → ∀ j v, (cc1 p)[j]? = some v → (cc L)[i * 2 + j]? = some v
  | q :: r, 0, p, h, j, v, hv => by
    simp at h; subst h
    have hj : j < (cc1 q).length := (List.getElem?_eq_some_iff.1 hv).1
    rw [cc_cons, List.getElem?_append_left (by omega), show 0 * 2 + j = j by omega]; exact hv
  | q :: r, i + 1, p, h, j, v, hv => by
    have := cc_get r i p (by simpa using h) j v hv
    rw [cc_cons, show (i + 1) * 2 + j = (cc1 q).length + (i * 2 + j) by simp [cc1]; omega, List.getElem?_append_right (by omega), Nat.add_sub_cancel_left]
    exact this
theorem cc_set : ∀ (L : List Vc) (i : Nat) (p : Vc) (u : Value), L[i]? = some p → (cc L).set (i * 2) u = cc (L.set i (u, p.2))
  | q :: r, 0, p, u, h => by
    simp at h; subst h
    simp [cc_cons, cc1]
  | q :: r, i + 1, p, u, h => by
    have := cc_set r i p u (by simpa using h)
    rw [cc_cons, List.set_cons_succ, cc_cons, ← this, show (i + 1) * 2 = (cc1 q).length + i * 2 by simp [cc1]; omega, List.set_append_right _ _ (by omega), Nat.add_sub_cancel_left]
theorem cps_set {L : List Vc} {i : Nat} {p : Vc} (h : L[i]? = some p) (u : Value) : cps (L.set i (u, p.2)) = cps L := by
  apply List.ext_getElem?
  intro j
  rw [List.getElem?_map, List.getElem?_map, List.getElem?_set]
  by_cases hj : i = j
  · subst hj
    rw [if_pos rfl, h]
    have : i < L.length := (List.getElem?_eq_some_iff.1 h).1
    simp [this]
  · rw [if_neg hj]
/-- Copies, where they lie. -/
def Cw (w : World) (S : List Nat) (v : Value) (L : List Vc) : Prop := Sl w S 2 v L.length (cc L) ∧ ∀ p ∈ L, Rw w S p.1 p.2.1
/-- A part as it lies: the slice of its rows, its span, its copies. -/
abbrev Vp := Value × ((Int × Int) × List Vc)
def pt1 (p : Vp) : List Value := [.int .i64 p.2.1.1, .int .i64 p.2.1.2, p.1]
def pt (P : List Vp) : List Value := P.flatMap pt1
abbrev pts (P : List Vp) : List Pt := P.map fun p => (p.2.1, cps p.2.2)
theorem pt_cons (p : Vp) (L : List Vp) : pt (p :: L) = pt1 p ++ pt L := by simp [pt]
theorem pt_append (L M : List Vp) : pt (L ++ M) = pt L ++ pt M := by simp [pt]
theorem pts_append (L M : List Vp) : pts (L ++ M) = pts L ++ pts M := List.map_append
theorem pt_get : ∀ (L : List Vp) (i : Nat) (p : Vp), L[i]? = some p → ∀ j v, (pt1 p)[j]? = some v → (pt L)[i * 3 + j]? = some v
  | q :: r, 0, p, h, j, v, hv => by
    simp at h; subst h
    have hj : j < (pt1 q).length := (List.getElem?_eq_some_iff.1 hv).1
    rw [pt_cons, List.getElem?_append_left (by omega), show 0 * 3 + j = j by omega]; exact hv
  | q :: r, i + 1, p, h, j, v, hv => by
    have := pt_get r i p (by simpa using h) j v hv
    rw [pt_cons, show (i + 1) * 3 + j = (pt1 q).length + (i * 3 + j) by simp [pt1]; omega, List.getElem?_append_right (by omega), Nat.add_sub_cancel_left]
    exact this
/-- Parts, where they lie. -/
def Pw (w : World) (S : List Nat) (v : Value) (P : List Vp) : Prop := Sl w S 3 v P.length (pt P) ∧ ∀ p ∈ P, Cw w S p.1 p.2.2
section
variable {w w' : World} {S S' : List Nat} {v : Value} {L : List Vc} {P : List Vp}
theorem Cw.ext (h : Cw w S v L) (k : Ext w w') : Cw w' S v L := ⟨Sl.ext h.1 k, fun p hp => Sl.ext (h.2 p hp) k⟩
theorem Pw.ext (h : Pw w S v P) (k : Ext w w') : Pw w' S v P := ⟨Sl.ext h.1 k, fun p hp => (h.2 p hp).ext k⟩
theorem cw_form (h : Cw w S v L) : ∃ A cap, v = .slice A L.length cap ∧ L.length ≤ cap ∧ cap ≤ maxLen ∧
    ∀ (i : Nat) (p : Vc), L[i]? = some p → ∃ b o, A = some ⟨b, o, none⟩ ∧ b ∉ S ∧ b < w.heap.size ∧ w.cell? ⟨b, o + i * 2, none⟩ = some p.1 ∧ w.cell? ⟨b, o + i * 2 + 1, none⟩ = some (.int .i64 p.2.2) := by
  obtain ⟨A, cap, rfl, h1, h2, h3, h4⟩ := h.1
  refine ⟨A, cap, rfl, h1, h2, fun i p hp => ?_⟩
  have hg := cc_get L i p hp
  rcases h4 with h4 | ⟨b, o, rfl, hb, hc⟩
  · have := hg 0 p.1 rfl
    rw [h4] at this
    simp at this
  · have c0 := hc _ _ (hg 0 p.1 rfl)
    have c1 := hc _ _ (hg 1 _ rfl)
    exact ⟨b, o, rfl, hb, block_lt_of_cell c0, by simpa [Nat.add_assoc] using c0, by simpa [Nat.add_assoc] using c1⟩
theorem pw_form (h : Pw w S v P) : ∃ A cap, v = .slice A P.length cap ∧ P.length ≤ cap ∧ cap ≤ maxLen ∧
    ∀ (i : Nat) (p : Vp), P[i]? = some p → ∃ b o, A = some ⟨b, o, none⟩ ∧ b ∉ S ∧ b < w.heap.size ∧ w.cell? ⟨b, o + i * 3, none⟩ = some (.int .i64 p.2.1.1) ∧ w.cell? ⟨b, o + i * 3 + 1, none⟩ = some (.int .i64 p.2.1.2) ∧ w.cell? ⟨b, o + i * 3 + 1 + 1, none⟩ = some p.1 := by
  obtain ⟨A, cap, rfl, h1, h2, h3, h4⟩ := h.1
  refine ⟨A, cap, rfl, h1, h2, fun i p hp => ?_⟩
  have hg := pt_get P i p hp
  rcases h4 with h4 | ⟨b, o, rfl, hb, hc⟩
  · have := hg 0 _ rfl
    rw [h4] at this
    simp at this
  · have c0 := hc _ _ (hg 0 _ rfl)
    have c1 := hc _ _ (hg 1 _ rfl)
    have c2 := hc _ _ (hg 2 _ rfl)
    exact ⟨b, o, rfl, hb, block_lt_of_cell c0, by simpa [Nat.add_assoc] using c0, by simpa [Nat.add_assoc] using c1, by simpa [Nat.add_assoc] using c2⟩
end
/-- A slice of one's own stays where other blocks are turned. -/
theorem own_away {w w' : World} {S : List Nat} {base e sz n : Nat} {v : Value} {xs : List Value} (h : w.ownsRow base e sz v n xs) (hF : Fr S w w') (hS : ∀ b ∈ S, b ∉ ob v) : w'.ownsRow base e sz v n xs := by
  refine ⟨h.1, ?_⟩
  rcases h.2 with h2 | ⟨g, cap, cur, rfl, hb, hg, r⟩
  · exact .inl h2
  · exact .inr ⟨g, cap, cur, rfl, hb, (hF.block g (lt_of_block hg) (fun m => hS g m (by simp [ob, Value.ownBlock]))).trans hg, r⟩
theorem own_kind {w : World} {base e sz n : Nat} {v : Value} {xs : List Value} (h : w.ownsRow base e sz v n xs) {b : Nat} (hb : b ∈ ob v) : ∃ cs c, w.heap[b]? = some (.cells cs e c) := by
  rcases h.2 with ⟨rfl, -⟩ | ⟨g, cap, cur, rfl, -, hg, -⟩
  · simp [ob, Value.ownBlock] at hb
  · have : b = g := by simpa [ob, Value.ownBlock] using hb
    subst this
    exact ⟨_, _, hg⟩
theorem own_far {w : World} {b1 e1 s1 n1 b2 e2 s2 n2 : Nat} {v1 v2 : Value} {xs1 xs2 : List Value} (h : w.ownsRow b1 e1 s1 v1 n1 xs1) (k : w.ownsRow b2 e2 s2 v2 n2 xs2) (he : e1 ≠ e2) : ∀ b ∈ ob v1, b ∉ ob v2 := by
  intro b h1 h2
  obtain ⟨cs, c, g1⟩ := own_kind h h1
  obtain ⟨ds, d, g2⟩ := own_kind k h2
  rw [g1] at g2
  injection g2 with g2
  injection g2 with _ g2
  exact he g2
/-- Copies of one's own; parts of one's own. -/
def OwnC (w : World) (B : Nat) (v : Value) (L : List Vc) : Prop := w.ownsRow B 56 2 v L.length (cc L) ∧ ∀ p ∈ L, OwnR w 0 p.1 p.2.1
def OwnP (w : World) (B : Nat) (v : Value) (P : List Vp) : Prop := w.ownsRow B 52 3 v P.length (pt P) ∧ ∀ p ∈ P, OwnC w B p.1 p.2.2
/-- No two parts share the block of their rows. -/
def Dis (P : List Vp) : Prop := P.Pairwise fun p q => ∀ b ∈ ob p.1, b ∉ ob q.1
section
variable {w w' : World} {S : List Nat} {B B' : Nat} {v : Value} {L : List Vc} {P : List Vp}
theorem OwnC.nil (w : World) (B : Nat) : OwnC w B (.slice none 0 0) [] := ⟨World.ownsRow_nil _ _ _ _, by simp⟩
theorem OwnP.nil (w : World) (B : Nat) : OwnP w B (.slice none 0 0) [] := ⟨World.ownsRow_nil _ _ _ _, by simp⟩
theorem OwnC.ext (h : OwnC w B v L) (k : Ext w w') : OwnC w' B v L := ⟨own_ext h.1 k, fun p hp => own_ext (h.2 p hp) k⟩
theorem OwnP.ext (h : OwnP w B v P) (k : Ext w w') : OwnP w' B v P := ⟨own_ext h.1 k, fun p hp => (h.2 p hp).ext k⟩
theorem OwnC.base (h : OwnC w B v L) (hb : B' ≤ B) : OwnC w B' v L := ⟨own_base h.1 hb, h.2⟩
theorem OwnP.base (h : OwnP w B v P) (hb : B' ≤ B) : OwnP w B' v P := ⟨own_base h.1 hb, fun p hp => (h.2 p hp).base hb⟩
theorem OwnC.cw (h : OwnC w B v L) : Cw w [] v L := ⟨Sl.own h.1 (by simp), fun p hp => Sl.own (h.2 p hp) (by simp)⟩
theorem OwnP.pw (h : OwnP w B v P) : Pw w [] v P := ⟨Sl.own h.1 (by simp), fun p hp => (h.2 p hp).cw⟩
/-- Copies stay, where blocks are turned that are neither theirs nor rows. -/
theorem OwnC.away (h : OwnC w B v L) (hF : Fr S w w') (hS : ∀ b ∈ S, b ∉ ob v ∧ ∀ cs c, w.heap[b]? ≠ some (.cells cs 64 c)) : OwnC w' B v L :=
  ⟨own_away h.1 hF fun b hb => (hS b hb).1, fun p hp => own_away (h.2 p hp) hF fun b hb hb2 => by
    obtain ⟨cs, c, hc⟩ := own_kind (h.2 p hp) hb2
    exact (hS b hb).2 cs c hc⟩
theorem OwnP.away (h : OwnP w B v P) (hF : Fr S w w') (hS : ∀ b ∈ S, (b ∉ ob v ∧ ∀ p ∈ P, b ∉ ob p.1) ∧ ∀ cs c, w.heap[b]? ≠ some (.cells cs 64 c)) : OwnP w' B v P :=
  ⟨own_away h.1 hF fun b hb => (hS b hb).1.1, fun p hp => (h.2 p hp).away hF fun b hb => ⟨(hS b hb).1.2 p hp, (hS b hb).2⟩⟩
theorem OwnC.form (h : OwnC w B v L) : ∃ A cap, v = .slice A L.length cap := own_form h.1
theorem OwnP.form (h : OwnP w B v P) : ∃ A cap, v = .slice A P.length cap := own_form h.1
theorem copy_no_value {g : Nat} {cs : Array Value} {c : Nat × Nat} (h : w.heap[g]? = some (.cells cs 56 c)) : ∀ cs c, w.heap[g]? ≠ some (.cells cs 64 c) := by
  intro ds d hd
  rw [h] at hd
  injection hd with hd
  injection hd with _ hd
  exact absurd hd (by decide)
theorem own_block2 {base e sz n : Nat} {xs : List Value} (h : w.ownsRow base e sz v n xs) (hn : 0 < n) : ∃ g cap, v = .slice (some ⟨g, 0, none⟩) n cap ∧ base ≤ g ∧ g < w.heap.size := by
  rcases h.2 with ⟨-, h0⟩ | ⟨g, cap, cur, rfl, hb, hg, -⟩
  · omega
  · exact ⟨g, cap, rfl, hb, lt_of_block hg⟩
/-- A row is put in another one's place, of the same values. -/
theorem OwnC.set {g n cap k : Nat} {c : Vc} {u : Value} (h : OwnC w B (.slice (some ⟨g, 0, none⟩) n cap) L) (hk : L[k]? = some c) (hu : OwnR w 0 u c.2.1) : OwnC (w.setCell ⟨g, k * 2, none⟩ u) B (.slice (some ⟨g, 0, none⟩) n cap) (L.set k (u, c.2)) := by
  obtain ⟨h1, h2⟩ := h
  obtain ⟨A, cp, e⟩ := own_form h1
  simp only [Value.slice.injEq] at e
  obtain ⟨rfl, rfl, rfl⟩ := e
  obtain ⟨cs, cn, hc⟩ := own_kind h1 (b := g) (by simp [ob, Value.ownBlock])
  have hF : Fr [g] w (w.setCell ⟨g, k * 2, none⟩ u) := (Fr.refl [g] w).setCell ⟨g, k * 2, none⟩ u (.inl (by simp))
  have hrow : ∀ x r, OwnR w 0 x r → OwnR (w.setCell ⟨g, k * 2, none⟩ u) 0 x r := fun x r hx => own_away hx hF fun b hb hb2 => by
    rw [List.mem_singleton] at hb
    subst hb
    obtain ⟨ds, d, hd⟩ := own_kind hx hb2
    exact copy_no_value hc _ _ hd
  have hs := (World.ownsRow.stored h1 (k * 2) u).1
  rw [cc_set L k c u hk] at hs
  refine ⟨by rw [List.length_set]; exact hs, fun p hp => ?_⟩
  rcases List.mem_or_eq_of_mem_set hp with hp | rfl
  · exact hrow _ _ (h2 p hp)
  · exact hrow _ _ hu
theorem OwnP.set {g n cap i k : Nat} {p : Vp} {c : Vc} {u : Value} (h : OwnP w B v P) (hd : Dis P) (hi : P[i]? = some p) (hp : p.1 = .slice (some ⟨g, 0, none⟩) n cap) (hk : p.2.2[k]? = some c) (hu : OwnR w 0 u c.2.1) : OwnP (w.setCell ⟨g, k * 2, none⟩ u) B v (P.set i (p.1, p.2.1, p.2.2.set k (u, c.2))) := by
  have hpm := List.mem_of_getElem? hi
  have hil : i < P.length := (List.getElem?_eq_some_iff.1 hi).1
  have hg : g ∈ ob p.1 := by rw [hp]; simp [ob, Value.ownBlock]
  obtain ⟨cs, cn, hc⟩ := own_kind (h.2 p hpm).1 hg
  have hF : Fr [g] w (w.setCell ⟨g, k * 2, none⟩ u) := (Fr.refl [g] w).setCell ⟨g, k * 2, none⟩ u (.inl (by simp))
  refine ⟨?_, fun q hq => ?_⟩
  · have h1 := own_away h.1 hF fun b hb => by
      rw [List.mem_singleton] at hb
      subst hb
      exact own_far (h.2 p hpm).1 h.1 (by decide) b hg
    have e : pt (P.set i (p.1, p.2.1, p.2.2.set k (u, c.2))) = pt P := by
      rw [pt, pt, List.flatMap_def, List.flatMap_def, List.map_set]
      congr 1
      apply List.ext_getElem?
      intro j
      rw [List.getElem?_set]
      by_cases hj : i = j
      · subst hj
        rw [if_pos rfl, List.length_map, if_pos hil, List.getElem?_map, hi]
        rfl
      · rw [if_neg hj]
    rw [List.length_set, e]
    exact h1
  · obtain ⟨j, hj⟩ := List.getElem?_of_mem hq
    rw [List.getElem?_set] at hj
    by_cases hij : i = j
    · subst hij
      rw [if_pos rfl, if_pos hil] at hj
      obtain rfl := Option.some.inj hj
      have := h.2 p hpm
      simp only
      rw [hp] at this ⊢
      exact this.set hk hu
    · rw [if_neg hij] at hj
      have hqm := List.mem_of_getElem? hj
      have hne : g ∉ ob q.1 := by
        unfold Dis at hd
        rw [List.pairwise_iff_getElem] at hd
        have hjl : j < P.length := (List.getElem?_eq_some_iff.1 hj).1
        have e1 : P[i] = p := by rw [List.getElem?_eq_getElem hil] at hi; exact Option.some.inj hi
        have e2 : P[j] = q := by rw [List.getElem?_eq_getElem hjl] at hj; exact Option.some.inj hj
        rcases Nat.lt_or_gt_of_ne hij with hlt | hlt
        · have := hd i j hil hjl hlt
          rw [e1, e2] at this
          exact this g hg
        · have := hd j i hjl hil hlt
          rw [e1, e2] at this
          exact fun h => this g h hg
      exact (h.2 q hqm).away hF fun b hb => by
        rw [List.mem_singleton] at hb
        subst hb
        exact ⟨hne, copy_no_value hc⟩
end
theorem pts_set {P : List Vp} {i k : Nat} {p : Vp} {c : Vc} (hi : P[i]? = some p) (hk : p.2.2[k]? = some c) (u : Value) : pts (P.set i (p.1, p.2.1, p.2.2.set k (u, c.2))) = pts P ∧ (P.set i (p.1, p.2.1, p.2.2.set k (u, c.2))).map Prod.fst = P.map Prod.fst := by
  have hil : i < P.length := (List.getElem?_eq_some_iff.1 hi).1
  constructor
  all_goals
    apply List.ext_getElem?
    intro j
    rw [List.getElem?_map, List.getElem?_map, List.getElem?_set]
    by_cases hj : i = j
    · subst hj
      rw [if_pos rfl, if_pos hil, hi]
      simp [cps_set hk u]
    · rw [if_neg hj]
theorem Dis.same {P Q : List Vp} (h : Dis P) (e : Q.map Prod.fst = P.map Prod.fst) : Dis Q := by
  unfold Dis at h ⊢
  have h1 : (P.map Prod.fst).Pairwise fun a b => ∀ x ∈ ob a, x ∉ ob b := by rw [List.pairwise_map]; exact h
  rw [← e, List.pairwise_map] at h1
  exact h1
end Go.Proofs.YtljkneajdndgjaaGreat
set_option linter.unusedVariables false
set_option linter.unusedSimpArgs false
namespace Go.Proofs.YtljkneajdndgjaaGreat
open Go.Maps (Keyed)
/-- Any element reads as itself. -/
def anyE (v : Value) : Option (DataW Value × List MemPlace) := some (.held v, [])
def entE {α : Type} (f : α → Lit × Value) (q : α) : Lit × DataW Value := ((f q).1, .held (f q).2)
/-- Block b is a map with the entries M. -/
def Mv {α : Type} (w : World) (P : Program) (k : TypeId) (f : α → Lit × Value) (b n : Nat) (M : List α) : Prop := ∃ es, w.ownsMap P k anyE b n (.map es) ∧ es.Perm (M.map (entE f))
def getM {α : Type} (f : α → Lit × Value) (M : List α) (kl : Lit) : Option α := M.find? fun q => (f q).1.sameKey kl
def delM {α : Type} (f : α → Lit × Value) (M : List α) (kl : Lit) : List α := M.filter fun q => !(f q).1.sameKey kl
def putM {α : Type} (f : α → Lit × Value) (M : List α) (x : α) : List α := x :: delM f M (f x).1
section
variable {α : Type} {f : α → Lit × Value} {P : Program} {k : TypeId} {w w' : World} {b n : Nat} {M : List α}
theorem Mv.made {α : Type} (f : α → Lit × Value) (w : World) (P : Program) (k : TypeId) : Mv (w.alloc (.map #[] 0)) P k f w.heap.size 0 [] := ⟨[], World.ownsMap_made w P k anyE, List.Perm.refl _⟩
theorem Mv.lt (h : Mv w P k f b n M) : b < w.heap.size := by obtain ⟨es, h, _⟩ := h; exact h.lt
theorem Mv.kept {row : Option Nat} (h : Mv w P k f b n M) (hg : w.grownBy w' row) (hne : some b ≠ row) : Mv w' P k f b n M := by obtain ⟨es, h, p⟩ := h; exact ⟨es, h.kept hg hne, p⟩
theorem Mv.alloc (h : Mv w P k f b n M) (o : Obj) : Mv (w.alloc o) P k f b n M := by obtain ⟨es, h, p⟩ := h; exact ⟨es, h.alloc o, p⟩
/-- Keys are apart. -/
theorem Mv.apart (h : Mv w P k f b n M) (K : Keyed P k) : M.Pairwise (fun p q => (f p).1 ≠ (f q).1) ∧ ∀ q ∈ M, WideAt.IsKeyLit (f q).1 := by
  obtain ⟨es, h, p⟩ := h
  obtain ⟨es', e, h1, h2⟩ := h.entries K
  injection e with e
  subst e
  have h3 : (M.map (entE f)).Pairwise (fun p q => p.1 ≠ q.1) := (p.pairwise_iff (fun {a b} hab => Ne.symm hab)).1 h1
  rw [List.pairwise_map] at h3
  exact ⟨h3, fun q hq => h2 (entE f q) (p.mem_iff.2 (List.mem_map.2 ⟨q, hq, rfl⟩))⟩
theorem find_perm {kl : Lit} {l l' : List (Lit × DataW Value)} (p : l.Perm l') (hd : l.Pairwise (fun p q => p.1 ≠ q.1)) : l.find? (fun p => p.1.sameKey kl) = l'.find? (fun p => p.1.sameKey kl) := by
  induction p with
  | nil => rfl
  | cons x _ ih =>
    rw [List.find?_cons, List.find?_cons, ih (List.pairwise_cons.1 hd).2]
  | swap x y l =>
    have hxy : y.1 ≠ x.1 := (List.pairwise_cons.1 hd).1 x (by simp)
    rw [List.find?_cons, List.find?_cons, List.find?_cons, List.find?_cons]
    cases h1 : y.1.sameKey kl <;> cases h2 : x.1.sameKey kl <;> simp_all
    exact absurd ((WideAt.sameKey_eq h1).trans (WideAt.sameKey_eq h2).symm) hxy
  | trans p1 _ ih1 ih2 =>
    rw [ih1 hd]
    exact ih2 ((p1.pairwise_iff (fun {a b} hab => Ne.symm hab)).1 hd)
theorem any_permM {α : Type} {l m : List α} (p : l.Perm m) (f : α → Bool) : l.any f = m.any f := by
  rw [Bool.eq_iff_iff, List.any_eq_true, List.any_eq_true]
  exact ⟨fun ⟨x, hx, e⟩ => ⟨x, p.mem_iff.1 hx, e⟩, fun ⟨x, hx, e⟩ => ⟨x, p.mem_iff.2 hx, e⟩⟩
theorem insert_perm (x : Lit × DataW Value) : ∀ l : List (Lit × DataW Value), (DataW.insert x l).Perm (x :: l)
  | [] => List.Perm.refl _
  | y :: r => by
    unfold DataW.insert
    split
    · exact List.Perm.refl _
    · exact ((insert_perm x r).cons y).trans (List.Perm.swap x y r)
theorem find_ents (f : α → Lit × Value) (kl : Lit) : ∀ M : List α, (M.map (entE f)).find? (fun p => p.1.sameKey kl) = (M.find? fun q => (f q).1.sameKey kl).map (entE f)
  | [] => rfl
  | q :: M => by
    rw [List.map_cons, List.find?_cons, List.find?_cons, find_ents f kl M]
    show (match (f q).1.sameKey kl with | true => _ | false => _) = _
    cases (f q).1.sameKey kl <;> rfl
theorem filter_ents (f : α → Lit × Value) (kl : Lit) (M : List α) : (M.map (entE f)).filter (fun p => !p.1.sameKey kl) = (delM f M kl).map (entE f) := by
  unfold delM
  rw [List.filter_map]; rfl
theorem Mv.at (h : Mv w P k f b n M) (K : Keyed P k) (kl : Lit) (z : Value) : ∃ es, w.ownsMap P k anyE b n (.map es) ∧ (DataW.map es).atKey kl (.held z) = .held (((getM f M kl).map fun q => (f q).2).getD z) := by
  obtain ⟨es, h, p⟩ := h
  refine ⟨es, h, ?_⟩
  obtain ⟨es', e, h1, -⟩ := h.entries K
  injection e with e
  subst e
  unfold DataW.atKey getM
  simp only
  rw [find_perm p h1, find_ents]
  cases M.find? fun q => (f q).1.sameKey kl <;> rfl
/-- 'm[k]'. -/
theorem Mv.lookup {t e : TypeId} (h : Mv w P k f b n M) (K : Keyed P k) (ht : P.underlying t = some (.map k e)) {z : Value} (hz : (zeroValue e).run P w = .ok z w) {key : Value} {kl : Lit} (hkey : keyOf P k key = some kl) : (Instr.lookup t (.map (some b)) key false).run P w = .ok (((getM f M kl).map fun q => (f q).2).getD z) w := by
  obtain ⟨es, h1, h2⟩ := h.at K kl z
  obtain ⟨v, ps, hrun, hv⟩ := h1.lookup K ht hz (zd := .held z) (zp := []) rfl hkey
  rw [h2] at hv
  unfold anyE at hv
  simp only [Option.some.injEq, Prod.mk.injEq, DataW.held.injEq] at hv
  rw [hrun, hv.1]
/-- 'm[k] = v'. -/
theorem Mv.store {t e : TypeId} (h : Mv w P k f b n M) (K : Keyed P k) (ht : P.underlying t = some (.map k e)) (hn : n < maxLen) {key : Value} (x : α) (hkey : keyOf P k key = some (f x).1) : ∃ w', (Instr.mapUpdate t (.map (some b)) key (f x).2).run P w = .ok () w' ∧ Mv w' P k f b (n + 1) (putM f M x) ∧ w.grownBy w' (some b) := by
  obtain ⟨es, h, p⟩ := h
  obtain ⟨w', hrun, h1, h2⟩ := h.store K ht hn hkey (val := (f x).2) (d := .held (f x).2) (ps := []) rfl
  refine ⟨w', hrun, ⟨_, h1, ?_⟩, h2.grown⟩
  refine (insert_perm _ _).trans ?_
  unfold putM
  rw [List.map_cons, ← filter_ents]
  exact (p.filter _).cons _
/-- 'len(m)'. -/
theorem Mv.len {t e : TypeId} (h : Mv w P k f b n M) (ht : P.underlying t = some (.map k e)) (ty : TypeId) : (Builtin.len_ #[t] ty #[.map (some b)]).run P w = .ok (.int .i64 M.length) w := by
  obtain ⟨es, h, p⟩ := h
  have e1 : es.length = M.length := by rw [p.length_eq, List.length_map]
  rw [h.len ht ty, Go.Maps.size_eq, e1]
/-- 'range m' under way: what is still to come. -/
def Rgv {α : Type} (w : World) (P : Program) (k : TypeId) (f : α → Lit × Value) (b r n : Nat) (M rest : List α) : Prop :=
  ∃ es left cnt, w.ranges P k anyE b r n (.map es) left cnt ∧ es.Perm (M.map (entE f)) ∧ (∀ kl, left kl = rest.any fun q => (f q).1.sameKey kl) ∧ rest.Sublist M
theorem Rgv.owns {r : Nat} {rest : List α} (h : Rgv w P k f b r n M rest) : Mv w P k f b n M := by
  obtain ⟨es, left, cnt, h1, h2, -⟩ := h
  exact ⟨es, h1.owns, h2⟩
theorem Rgv.kept {r : Nat} {rest : List α} {row : Option Nat} (h : Rgv w P k f b r n M rest) (hg : w.grownBy w' row) (hb : some b ≠ row) (hr : some r ≠ row) : Rgv w' P k f b r n M rest := by
  obtain ⟨es, left, cnt, h1, h2⟩ := h
  exact ⟨es, left, cnt, h1.kept hg hb hr, h2⟩
theorem Mv.range {t e : TypeId} (h : Mv w P k f b n M) (K : Keyed P k) (ht : P.underlying t = some (.map k e)) : ∃ w', (Instr.range t (.map (some b))).run P w = .ok (.pointer (some ⟨w.heap.size, 0, none⟩)) w' ∧ Rgv w' P k f b w.heap.size n M M ∧ w.grownBy w' none ∧ w'.heap.size = w.heap.size + 1 := by
  obtain ⟨es, h, p⟩ := h
  obtain ⟨w', hrun, h1, h2, h3⟩ := h.range K ht
  refine ⟨w', hrun, ⟨es, _, _, h1, p, fun kl => ?_, List.Sublist.refl _⟩, h2, h3⟩
  rw [Go.Maps.has_eq, any_permM p, List.any_map]
  rfl
theorem Rgv.next {r : Nat} {rest : List α} (h : Rgv w P k f b r n M rest) (K : Keyed P k) (ty : TypeId) :
    (rest = [] ∧ (Instr.next (.pointer (some ⟨r, 0, none⟩)) false ty).run P w = .ok (.tuple #[.bool false]) w) ∨
    ∃ key q rest' w', keyOf P k key = some (f q).1 ∧ q ∈ M ∧ rest.Perm (q :: rest') ∧ (Instr.next (.pointer (some ⟨r, 0, none⟩)) false ty).run P w = .ok (.tuple #[.bool true, key, (f q).2]) w' ∧ Rgv w' P k f b r n M rest' ∧ w.grownBy w' (some r) ∧ w'.heap.size = w.heap.size ∧ (Instr.entry (.pointer (some ⟨r, 0, none⟩))).run P w' = .ok (.tuple #[key, (f q).2]) w' := by
  have hap := h.owns.apart K
  have hMv := h.owns
  obtain ⟨es, left, cnt, h1, p, hl, hs⟩ := h
  have hself : ∀ q ∈ M, (f q).1.sameKey (f q).1 = true := fun q hq => WideAt.sameKey_self (hap.2 q hq)
  rcases h1.next K ty with ⟨-, h0, hrun⟩ | ⟨key, v, kl, y, w', cnt', hkey, hlk, hRv, hat, hrun, hr, -, hg, hsz, hen⟩
  · left
    refine ⟨List.eq_nil_iff_forall_not_mem.2 fun q hq => ?_, hrun⟩
    have := hl (f q).1
    rw [h0] at this
    have h2 := List.any_eq_false.1 this.symm q hq
    exact h2 (hself q (hs.subset hq))
  · right
    rw [hl] at hlk
    obtain ⟨q, hq, hqk⟩ := List.any_eq_true.1 hlk
    have e1 := WideAt.sameKey_eq hqk
    subst e1
    have hqM := hs.subset hq
    have hv : v = (f q).2 := by
      unfold anyE at hRv
      simp only [Option.some.injEq] at hRv
      obtain ⟨es2, h3, h4⟩ := hMv.at K (f q).1 v
      have h5 := hat (.held v)
      obtain ⟨es', e, h6, -⟩ := h1.owns.entries K
      injection e with e
      subst e
      have h7 : (DataW.map es).atKey (f q).1 (.held v) = .held (f q).2 := by
        unfold DataW.atKey
        simp only
        rw [find_perm p h6, find_ents]
        have h8 : M.find? (fun x => (f x).1.sameKey (f q).1) = some q := by
          rw [List.find?_eq_some_iff_append]
          refine ⟨hqk, ?_⟩
          obtain ⟨l1, l2, e2⟩ := List.append_of_mem hqM
          refine ⟨l1, l2, e2, fun x hx => ?_⟩
          cases hx2 : (f x).1.sameKey (f q).1
          · rfl
          · exfalso
            have h9 := hap.1
            rw [e2, List.pairwise_append] at h9
            exact h9.2.2 x hx q (by simp) (WideAt.sameKey_eq hx2)
        rw [h8]; rfl
      rw [h7, ← hRv] at h5
      injection h5 with h5
      exact h5.symm
    subst hv
    refine ⟨key, q, rest.filter (fun x => !(f x).1.sameKey (f q).1), w', hkey, hqM, ?_, hrun, ⟨es, _, _, hr, p, fun kl => ?_, (List.filter_sublist ..).trans hs⟩, hg, hsz, hen⟩
    · obtain ⟨l1, l2, e2⟩ := List.append_of_mem hq
      have h9 : rest.Pairwise (fun p q => (f p).1 ≠ (f q).1) := hap.1.sublist hs
      rw [e2, List.pairwise_append, List.pairwise_cons] at h9
      have f1 : ∀ x ∈ l1, (!(f x).1.sameKey (f q).1) = true := fun x hx => by
        cases hx2 : (f x).1.sameKey (f q).1
        · rfl
        · exact absurd (WideAt.sameKey_eq hx2) (h9.2.2 x hx q (by simp))
      have f2 : ∀ x ∈ l2, (!(f x).1.sameKey (f q).1) = true := fun x hx => by
        cases hx2 : (f x).1.sameKey (f q).1
        · rfl
        · exact absurd (WideAt.sameKey_eq hx2).symm (h9.2.1.1 x hx)
      rw [e2, List.filter_append, List.filter_cons, hqk, if_neg (by decide), List.filter_eq_self.2 f1, List.filter_eq_self.2 f2]
      exact List.perm_middle
    · show (left kl && !kl.sameKey (f q).1) = _
      rw [hl, List.any_filter]
      cases hk : kl.sameKey (f q).1
      · rw [Bool.not_false, Bool.and_true]
        refine List.any_congr rfl fun x => ?_
        cases hx : (f x).1.sameKey kl
        · simp
        · rw [WideAt.sameKey_eq hx, hk]; rfl
      · rw [Bool.not_true, Bool.and_false]
        symm
        refine List.any_eq_false.2 fun x hx h2 => ?_
        rw [Bool.and_eq_true] at h2
        rw [WideAt.sameKey_eq h2.2, hk] at h2
        exact absurd h2.1 (by decide)
end
section
variable {α : Type} {f : α → Lit × Value} {P : Program} {k : TypeId} {w : World} {b n : Nat} {M : List α} {ops : Array Oper} {rest : List Oper} {o : Oper} {a : Act} {Q : Exit → Act → World → Prop}
theorem wpl_range {t e : TypeId} (hg : o.guard = none) (m : Operand) (hop : o.op = Op.range t m) (hm : a.eval m = .map (some b)) (K : Keyed P k) (ht : P.underlying t = some (.map k e)) (h : Mv w P k f b n M)
    (hK : ∀ w', Rgv w' P k f b w.heap.size n M M → w.grownBy w' none → w'.heap.size = w.heap.size + 1 → wpList P ops Q rest (a.put o.dst (.pointer (some ⟨w.heap.size, 0, none⟩))) w') : wpList P ops Q (o :: rest) a w := by
  refine wpList_plain hg fun K' hK' => ?_
  obtain ⟨w', hrun, r1, r2, r3⟩ := h.range K ht
  unfold Oper.wp
  simp [execOp, hop, hm, hrun, Result.andThen]
  exact hK' _ _ (hK w' r1 r2 r3)
theorem wpl_next {r : Nat} {left : List α} (hg : o.guard = none) (it : Operand) (hop : o.op = Op.next it false) (hit : a.eval it = .pointer (some ⟨r, 0, none⟩)) (K : Keyed P k) (h : Rgv w P k f b r n M left)
    (hDone : left = [] → wpList P ops Q rest (a.put o.dst (.tuple #[.bool false])) w)
    (hMore : ∀ key q left' w', keyOf P k key = some (f q).1 → q ∈ M → left.Perm (q :: left') → Rgv w' P k f b r n M left' → w.grownBy w' (some r) → w'.heap.size = w.heap.size → (Instr.entry (.pointer (some ⟨r, 0, none⟩))).run P w' = .ok (.tuple #[key, (f q).2]) w' → wpList P ops Q rest (a.put o.dst (.tuple #[.bool true, key, (f q).2])) w') : wpList P ops Q (o :: rest) a w := by
  refine wpList_plain hg fun K' hK' => ?_
  unfold Oper.wp
  rcases h.next K o.type with ⟨h0, hrun⟩ | ⟨key, q, left', w', hkey, hq, hp, hrun, hr, hgr, hsz, hen⟩
  · simp [execOp, hop, hit, hrun, Result.andThen]
    exact hK' _ _ (hDone h0)
  · simp [execOp, hop, hit, hrun, Result.andThen]
    exact hK' _ _ (hMore key q left' w' hkey hq hp hr hgr hsz hen)
theorem wpl_mstore {t e : TypeId} (hg : o.guard = none) (m x v : Operand) (hop : o.op = Op.mapUpdate t m x v) {key : Value} (y : α) (hm : a.eval m = .map (some b)) (hx : a.eval x = key) (hv : a.eval v = (f y).2) (K : Keyed P k) (ht : P.underlying t = some (.map k e)) (hn : n < maxLen) (h : Mv w P k f b n M) (hkey : keyOf P k key = some (f y).1)
    (hK : ∀ w', Mv w' P k f b (n + 1) (putM f M y) → w.grownBy w' (some b) → wpList P ops Q rest (a.put o.dst undef) w') : wpList P ops Q (o :: rest) a w := by
  refine wpList_plain hg fun K' hK' => ?_
  obtain ⟨w', hrun, r1, r2⟩ := h.store K ht hn y hkey
  unfold Oper.wp
  simp [execOp, hop, hm, hx, hv, hrun, Result.andThen]
  exact hK' _ _ (hK w' r1 r2)
end
end Go.Proofs.YtljkneajdndgjaaGreat
