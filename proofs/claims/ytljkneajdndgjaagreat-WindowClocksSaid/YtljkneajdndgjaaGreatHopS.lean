/-
  A helper of ours: no claim of its own. Layer 28 (hop): windows and their rows as lists; a map of copies in memory.
-/
import Derived.Test.YtljkneajdndgjaaGreatSnaS
import Derived.Test.YtljkneajdndgjaaGreatIdx
import Derived.Test.YtljkneajdndgjaaGreatEdgFx
import Derived.Test.YtljkneajdndgjaaGreatHopO
import Derived.Test.YtljkneajdndgjaaGreatEdgM
import Derived.Test.YtljkneajdndgjaaGreatHopR
set_option linter.unusedVariables false
set_option linter.unusedSimpArgs false
namespace Go.Proofs.YtljkneajdndgjaaGreat
open Go.RowKit
/-- A copy as it lies: its row's slice, and the copy. -/
abbrev Vc := Value × Cp
def cc1 (p : Vc) : List Value := [p.1, .int .i64 p.2.2]
def cc (L : List Vc) : List Value := L.flatMap cc1
abbrev cps (L : List Vc) : List Cp := L.map Prod.snd
theorem cc_cons (p : Vc) (L : List Vc) : cc (p :: L) = cc1 p ++ cc L := by simp [cc]
theorem cc_append (L M : List Vc) : cc (L ++ M) = cc L ++ cc M := by simp [cc]
theorem cc_get : ∀ (L : List Vc) (i : Nat) (p : Vc), L[i]? = some p → ∀ j v, (cc1 p)[j]? = some v → (cc L)[i * 2 + j]? = some v
  | q :: r, 0, p, h, j, v, hv => by
    simp at h; subst h
    have hj : j < (cc1 q).length := (List.getElem?_eq_some_iff.1 hv).1
    rw [cc_cons, List.getElem?_append_left (by omega), show 0 * 2 + j = j by omega]; exact hv
  | q :: r, i + 1, p, h, j, v, hv => by
    have := cc_get r i p (by simpa using h) j v hv
    rw [cc_cons, show (i + 1) * 2 + j = (cc1 q).length + (i * 2 + j) by simp [cc1]; omega, List.getElem?_append_right (by omega), Nat.add_sub_cancel_left]
    exact this
theorem cc_set : ∀ (L : List Vc) (i : Nat) (p : Vc) (u : Value), L[i]? = some p → (cc L).set (i * 2) u = cc (L.set i (u, p.2))
  | q :: r, 0, p, u, h => by
    simp at h; subst h
    simp [cc_cons, cc1]
  | q :: r, i + 1, p, u, h => by
    have := cc_set r i p u (by simpa using h)
    rw [cc_cons, List.set_cons_succ, cc_cons, ← this, show (i + 1) * 2 = (cc1 q).length + i * 2 by simp [cc1]; omega, List.set_append_right _ _ (by omega), Nat.add_sub_cancel_left]
theorem cps_set {L : List Vc} {i : Nat} {p : Vc} (h : L[i]? = some p) (u : Value) : cps (L.set i (u, p.2)) = cps L := by
  apply List.ext_getElem?
  intro j
  rw [List.getElem?_map, List.getElem?_map, List.getElem?_set]
  by_cases hj : i = j
  · subst hj
    rw [if_pos rfl, h]
    have : i < L.length := (List.getElem?_eq_some_iff.1 h).1
    simp [this]
  · rw [if_neg hj]
/-- Copies, where they lie. -/
def Cw (w : World) (S : List Nat) (v : Value) (L : List Vc) : Prop := Sl w S 2 v L.length (cc L) ∧ ∀ p ∈ L, Rw w S p.1 p.2.1
/-- A part as it lies: the slice of its rows, its span, its copies. -/
abbrev Vp := Value × ((Int × Int) × List Vc)
def pt1 (p : Vp) : List Value := [.int .i64 p.2.1.1, .int .i64 p.2.1.2, p.1]
def pt (P : List Vp) : List Value := P.flatMap pt1
abbrev pts (P : List Vp) : List Pt := P.map fun p => (p.2.1, cps p.2.2)
theorem pt_cons (p : Vp) (L : List Vp) : pt (p :: L) = pt1 p ++ pt L := by simp [pt]
theorem pt_append (L M : List Vp) : pt (L ++ M) = pt L ++ pt M := by simp [pt]
theorem pts_append (L M : List Vp) : pts (L ++ M) = pts L ++ pts M := List.map_append
theorem pt_get : ∀ (L : List Vp) (i : Nat) (p : Vp), L[i]? = some p → ∀ j v, (pt1 p)[j]? = some v → (pt L)[i * 3 + j]? = some v
  | q :: r, 0, p, h, j, v, hv => by
    simp at h; subst h
    have hj : j < (pt1 q).length := (List.getElem?_eq_some_iff.1 hv).1
    rw [pt_cons, List.getElem?_append_left (by omega), show 0 * 3 + j = j by omega]; exact hv
  | q :: r, i + 1, p, h, j, v, hv => by
    have := pt_get r i p (by simpa using h) j v hv
    rw [pt_cons, show (i + 1) * 3 + j = (pt1 q).length + (i * 3 + j) by simp [pt1]; omega, List.getElem?_append_right (by omega), Nat.add_sub_cancel_left]
    exact this
/-- Parts, where they lie. -/
def Pw (w : World) (S : List Nat) (v : Value) (P : List Vp) : Prop := Sl w S 3 v P.length (pt P) ∧ ∀ p ∈ P, Cw w S p.1 p.2.2
section
variable {w w' : World} {S S' : List Nat} {v : Value} {L : List Vc} {P : List Vp}
theorem Cw.ext (h : Cw w S v L) (k : Ext w w') : Cw w' S v L := ⟨Sl.ext h.1 k, fun p hp => Sl.ext (h.2 p hp) k⟩
theorem Pw.ext (h : Pw w S v P) (k : Ext w w') : Pw w' S v P := ⟨Sl.ext h.1 k, fun p hp => (h.2 p hp).ext k⟩
theorem cw_form (h : Cw w S v L) : ∃ A cap, v = .slice A L.length cap ∧ L.length ≤ cap ∧ cap ≤ maxLen ∧
    ∀ (i : Nat) (p : Vc), L[i]? = some p → ∃ b o, A = some ⟨b, o, none⟩ ∧ b ∉ S ∧ b < w.heap.size ∧ w.cell? ⟨b, o + i * 2, none⟩ = some p.1 ∧ w.cell? ⟨b, o + i * 2 + 1, none⟩ = some (.int .i64 p.2.2) := by
  obtain ⟨A, cap, rfl, h1, h2, h3, h4⟩ := h.1
  refine ⟨A, cap, rfl, h1, h2, fun i p hp => ?_⟩
  have hg := cc_get L i p hp
  rcases h4 with h4 | ⟨b, o, rfl, hb, hc⟩
  · have := hg 0 p.1 rfl
    rw [h4] at this
    simp at this
  · have c0 := hc _ _ (hg 0 p.1 rfl)
    have c1 := hc _ _ (hg 1 _ rfl)
    exact ⟨b, o, rfl, hb, block_lt_of_cell c0, by simpa [Nat.add_assoc] using c0, by simpa [Nat.add_assoc] using c1⟩
theorem pw_form (h : Pw w S v P) : ∃ A cap, v = .slice A P.length cap ∧ P.length ≤ cap ∧ cap ≤ maxLen ∧
    ∀ (i : Nat) (p : Vp), P[i]? = some p → ∃ b o, A = some ⟨b, o, none⟩ ∧ b ∉ S ∧ b < w.heap.size ∧ w.cell? ⟨b, o + i * 3, none⟩ = some (.int .i64 p.2.1.1) ∧ w.cell? ⟨b, o + i * 3 + 1, none⟩ = some (.int .i64 p.2.1.2) ∧ w.cell? ⟨b, o + i * 3 + 1 + 1, none⟩ = some p.1 := by
  obtain ⟨A, cap, rfl, h1, h2, h3, h4⟩ := h.1
  refine ⟨A, cap, rfl, h1, h2, fun i p hp => ?_⟩
  have hg := pt_get P i p hp
  rcases h4 with h4 | ⟨b, o, rfl, hb, hc⟩
  · have := hg 0 _ rfl
    rw [h4] at this
    simp at this
  · have c0 := hc _ _ (hg 0 _ rfl)
    have c1 := hc _ _ (hg 1 _ rfl)
    have c2 := hc _ _ (hg 2 _ rfl)
    exact ⟨b, o, rfl, hb, block_lt_of_cell c0, by simpa [Nat.add_assoc] using c0, by simpa [Nat.add_assoc] using c1, by simpa [Nat.add_assoc] using c2⟩
end
/-- A slice of one's own stays where other blocks are turned. -/
theorem own_away {w w' : World} {S : List Nat} {base e sz n : Nat} {v : Value} {xs : List Value} (h : w.ownsRow base e sz v n xs) (hF : Fr S w w') (hS : ∀ b ∈ S, b ∉ ob v) : w'.ownsRow base e sz v n xs := by
  refine ⟨h.1, ?_⟩
  rcases h.2 with h2 | ⟨g, cap, cur, rfl, hb, hg, r⟩
  · exact .inl h2
  · exact .inr ⟨g, cap, cur, rfl, hb, (hF.block g (lt_of_block hg) (fun m => hS g m (by simp [ob, Value.ownBlock]))).trans hg, r⟩
theorem own_kind {w : World} {base e sz n : Nat} {v : Value} {xs : List Value} (h : w.ownsRow base e sz v n xs) {b : Nat} (hb : b ∈ ob v) : ∃ cs c, w.heap[b]? = some (.cells cs e c) := by
  rcases h.2 with ⟨rfl, -⟩ | ⟨g, cap, cur, rfl, -, hg, -⟩
  · simp [ob, Value.ownBlock] at hb
  · have : b = g := by simpa [ob, Value.ownBlock] using hb
    subst this
    exact ⟨_, _, hg⟩
theorem own_far {w : World} {b1 e1 s1 n1 b2 e2 s2 n2 : Nat} {v1 v2 : Value} {xs1 xs2 : List Value} (h : w.ownsRow b1 e1 s1 v1 n1 xs1) (k : w.ownsRow b2 e2 s2 v2 n2 xs2) (he : e1 ≠ e2) : ∀ b ∈ ob v1, b ∉ ob v2 := by
  intro b h1 h2
  obtain ⟨cs, c, g1⟩ := own_kind h h1
  obtain ⟨ds, d, g2⟩ := own_kind k h2
  rw [g1] at g2
  injection g2 with g2
  injection g2 with _ g2
  exact he g2
/-- Copies of one's own; parts of one's own. -/
def OwnC (w : World) (B : Nat) (v : Value) (L : List Vc) : Prop := w.ownsRow B 56 2 v L.length (cc L) ∧ ∀ p ∈ L, OwnR w 0 p.1 p.2.1
def OwnP (w : World) (B : Nat) (v : Value) (P : List Vp) : Prop := w.ownsRow B 52 3 v P.length (pt P) ∧ ∀ p ∈ P, OwnC w B p.1 p.2.2
/-- No two parts share the block of their rows. -/
def Dis (P : List Vp) : Prop := P.Pairwise fun p q => ∀ b ∈ ob p.1, b ∉ ob q.1
section
variable {w w' : World} {S : List Nat} {B B' : Nat} {v : Value} {L : List Vc} {P : List Vp}
theorem OwnC.nil (w : World) (B : Nat) : OwnC w B (.slice none 0 0) [] := ⟨World.ownsRow_nil _ _ _ _, by simp⟩
theorem OwnP.nil (w : World) (B : Nat) : OwnP w B (.slice none 0 0) [] := ⟨World.ownsRow_nil _ _ _ _, by simp⟩
theorem OwnC.ext (h : OwnC w B v L) (k : Ext w w') : OwnC w' B v L := ⟨own_ext h.1 k, fun p hp => own_ext (h.2 p hp) k⟩
theorem OwnP.ext (h : OwnP w B v P) (k : Ext w w') : OwnP w' B v P := ⟨own_ext h.1 k, fun p hp => (h.2 p hp).ext k⟩
theorem OwnC.base (h : OwnC w B v L) (hb : B' ≤ B) : OwnC w B' v L := ⟨own_base h.1 hb, h.2⟩
theorem OwnP.base (h : OwnP w B v P) (hb : B' ≤ B) : OwnP w B' v P := ⟨own_base h.1 hb, fun p hp => (h.2 p hp).base hb⟩
theorem OwnC.cw (h : OwnC w B v L) : Cw w [] v L := ⟨Sl.own h.1 (by simp), fun p hp => Sl.own (h.2 p hp) (by simp)⟩
theorem OwnP.pw (h : OwnP w B v P) : Pw w [] v P := ⟨Sl.own h.1 (by simp), fun p hp => (h.2 p hp).cw⟩
/-- Copies stay, where blocks are turned that are neither theirs nor rows. -/
theorem OwnC.away (h : OwnC w B v L) (hF : Fr S w w') (hS : ∀ b ∈ S, b ∉ ob v ∧ ∀ cs c, w.heap[b]? ≠ some (.cells cs 64 c)) : OwnC w' B v L :=
  ⟨own_away h.1 hF fun b hb => (hS b hb).1, fun p hp => own_away (h.2 p hp) hF fun b hb hb2 => by
    obtain ⟨cs, c, hc⟩ := own_kind (h.2 p hp) hb2
    exact (hS b hb).2 cs c hc⟩
theorem OwnP.away (h : OwnP w B v P) (hF : Fr S w w') (hS : ∀ b ∈ S, (b ∉ ob v ∧ ∀ p ∈ P, b ∉ ob p.1) ∧ ∀ cs c, w.heap[b]? ≠ some (.cells cs 64 c)) : OwnP w' B v P :=
  ⟨own_away h.1 hF fun b hb => (hS b hb).1.1, fun p hp => (h.2 p hp).away hF fun b hb => ⟨(hS b hb).1.2 p hp, (hS b hb).2⟩⟩
theorem OwnC.form (h : OwnC w B v L) : ∃ A cap, v = .slice A L.length cap := own_form h.1
theorem OwnP.form (h : OwnP w B v P) : ∃ A cap, v = .slice A P.length cap := own_form h.1
theorem copy_no_value {g : Nat} {cs : Array Value} {c : Nat × Nat} (h : w.heap[g]? = some (.cells cs 56 c)) : ∀ cs c, w.heap[g]? ≠ some (.cells cs 64 c) := by
  intro ds d hd
  rw [h] at hd
  injection hd with hd
  injection hd with _ hd
  exact absurd hd (by decide)
theorem own_block2 {base e sz n : Nat} {xs : List Value} (h : w.ownsRow base e sz v n xs) (hn : 0 < n) : ∃ g cap, v = .slice (some ⟨g, 0, none⟩) n cap ∧ base ≤ g ∧ g < w.heap.size := by
  rcases h.2 with ⟨-, h0⟩ | ⟨g, cap, cur, rfl, hb, hg, -⟩
  · omega
  · exact ⟨g, cap, rfl, hb, lt_of_block hg⟩
/-- A row is put in another one's place, of the same values. -/
theorem OwnC.set {g n cap k : Nat} {c : Vc} {u : Value} (h : OwnC w B (.slice (some ⟨g, 0, none⟩) n cap) L) (hk : L[k]? = some c) (hu : OwnR w 0 u c.2.1) : OwnC (w.setCell ⟨g, k * 2, none⟩ u) B (.slice (some ⟨g, 0, none⟩) n cap) (L.set k (u, c.2)) := by
  obtain ⟨h1, h2⟩ := h
  obtain ⟨A, cp, e⟩ := own_form h1
  simp only [Value.slice.injEq] at e
  obtain ⟨rfl, rfl, rfl⟩ := e
  obtain ⟨cs, cn, hc⟩ := own_kind h1 (b := g) (by simp [ob, Value.ownBlock])
  have hF : Fr [g] w (w.setCell ⟨g, k * 2, none⟩ u) := (Fr.refl [g] w).setCell ⟨g, k * 2, none⟩ u (.inl (by simp))
  have hrow : ∀ x r, OwnR w 0 x r → OwnR (w.setCell ⟨g, k * 2, none⟩ u) 0 x r := fun x r hx => own_away hx hF fun b hb hb2 => by
    rw [List.mem_singleton] at hb
    subst hb
    obtain ⟨ds, d, hd⟩ := own_kind hx hb2
    exact copy_no_value hc _ _ hd
  have hs := (World.ownsRow.stored h1 (k * 2) u).1
  rw [cc_set L k c u hk] at hs
  refine ⟨by rw [List.length_set]; exact hs, fun p hp => ?_⟩
  rcases List.mem_or_eq_of_mem_set hp with hp | rfl
  · exact hrow _ _ (h2 p hp)
  · exact hrow _ _ hu
theorem OwnP.set {g n cap i k : Nat} {p : Vp} {c : Vc} {u : Value} (h : OwnP w B v P) (hd : Dis P) (hi : P[i]? = some p) (hp : p.1 = .slice (some ⟨g, 0, none⟩) n cap) (hk : p.2.2[k]? = some c) (hu : OwnR w 0 u c.2.1) : OwnP (w.setCell ⟨g, k * 2, none⟩ u) B v (P.set i (p.1, p.2.1, p.2.2.set k (u, c.2))) := by
  have hpm := List.mem_of_getElem? hi
  have hil : i < P.length := (List.getElem?_eq_some_iff.1 hi).1
  have hg : g ∈ ob p.1 := by rw [hp]; simp [ob, Value.ownBlock]
  obtain ⟨cs, cn, hc⟩ := own_kind (h.2 p hpm).1 hg
  have hF : Fr [g] w (w.setCell ⟨g, k * 2, none⟩ u) := (Fr.refl [g] w).setCell ⟨g, k * 2, none⟩ u (.inl (by simp))
  refine ⟨?_, fun q hq => ?_⟩
  · have h1 := own_away h.1 hF fun b hb => by
      rw [List.mem_singleton] at hb
      subst hb
      exact own_far (h.2 p hpm).1 h.1 (by decide) b hg
    have e : pt (P.set i (p.1, p.2.1, p.2.2.set k (u, c.2))) = pt P := by
      rw [pt, pt, List.flatMap_def, List.flatMap_def, List.map_set]
      congr 1
      apply List.ext_getElem?
      intro j
      rw [List.getElem?_set]
      by_cases hj : i = j
      · subst hj
        rw [if_pos rfl, List.length_map, if_pos hil, List.getElem?_map, hi]
        rfl
      · rw [if_neg hj]
    rw [List.length_set, e]
    exact h1
  · obtain ⟨j, hj⟩ := List.getElem?_of_mem hq
    rw [List.getElem?_set] at hj
    by_cases hij : i = j
    · subst hij
      rw [if_pos rfl, if_pos hil] at hj
      obtain rfl := Option.some.inj hj
      have := h.2 p hpm
      simp only
      rw [hp] at this ⊢
      exact this.set hk hu
    · rw [if_neg hij] at hj
      have hqm := List.mem_of_getElem? hj
      have hne : g ∉ ob q.1 := by
        unfold Dis at hd
        rw [List.pairwise_iff_getElem] at hd
        have hjl : j < P.length := (List.getElem?_eq_some_iff.1 hj).1
        have e1 : P[i] = p := by rw [List.getElem?_eq_getElem hil] at hi; exact Option.some.inj hi
        have e2 : P[j] = q := by rw [List.getElem?_eq_getElem hjl] at hj; exact Option.some.inj hj
        rcases Nat.lt_or_gt_of_ne hij with hlt | hlt
        · have := hd i j hil hjl hlt
          rw [e1, e2] at this
          exact this g hg
        · have := hd j i hjl hil hlt
          rw [e1, e2] at this
          exact fun h => this g h hg
      exact (h.2 q hqm).away hF fun b hb => by
        rw [List.mem_singleton] at hb
        subst hb
        exact ⟨hne, copy_no_value hc⟩
end
theorem pts_set {P : List Vp} {i k : Nat} {p : Vp} {c : Vc} (hi : P[i]? = some p) (hk : p.2.2[k]? = some c) (u : Value) : pts (P.set i (p.1, p.2.1, p.2.2.set k (u, c.2))) = pts P ∧ (P.set i (p.1, p.2.1, p.2.2.set k (u, c.2))).map Prod.fst = P.map Prod.fst := by
  have hil : i < P.length := (List.getElem?_eq_some_iff.1 hi).1
  constructor
  all_goals
    apply List.ext_getElem?
    intro j
    rw [List.getElem?_map, List.getElem?_map, List.getElem?_set]
    by_cases hj : i = j
    · subst hj
      rw [if_pos rfl, if_pos hil, hi]
      simp [cps_set hk u]
    · rw [if_neg hj]
theorem Dis.same {P Q : List Vp} (h : Dis P) (e : Q.map Prod.fst = P.map Prod.fst) : Dis Q := by
  unfold Dis at h ⊢
  have h1 : (P.map Prod.fst).Pairwise fun a b => ∀ x ∈ ob a, x ∉ ob b := by rw [List.pairwise_map]; exact h
  rw [← e, List.pairwise_map] at h1
  exact h1
end Go.Proofs.YtljkneajdndgjaaGreat
set_option linter.unusedVariables false
set_option linter.unusedSimpArgs false
namespace Go.Proofs.YtljkneajdndgjaaGreat
open Go.RowKit
theorem nodup_len {α : Type} [DecidableEq α] : ∀ (l m : List α), l.Nodup → (∀ x ∈ l, x ∈ m) → l.length ≤ m.length
  | [], m, _, _ => Nat.zero_le _
  | x :: l, m, hn, h => by
    obtain ⟨h1, h2⟩ := List.nodup_cons.1 hn
    have hx := h x (by simp)
    have := nodup_len l (m.erase x) h2 fun y hy => (List.mem_erase_of_ne (fun e => h1 (by rw [← e]; exact hy))).2 (h y (by simp [hy]))
    rw [List.length_erase_of_mem hx] at this
    have := List.length_pos_of_mem hx
    rw [List.length_cons]
    omega
theorem hT_asc {h a e : Int} (hh : 1 ≤ h) : (hT h a e).Pairwise (· < ·) := by
  unfold hT
  rw [List.pairwise_map]
  refine List.pairwise_lt_range.imp fun {i j} hij => ?_
  have : (i : Int) * h < (j : Int) * h := Int.mul_lt_mul_of_pos_right (by omega) (by omega)
  omega
/-- What is told rises, and lies behind where one goes on from. -/
theorem ofSt_asc {s hp r : Int} {J : List Jp} {f : Int} (hs : 1 ≤ s) (hh : 1 ≤ hp) (hr : r ≤ 1125899906842624) (hf : 0 ≤ f ∧ f ≤ 1125899906842624) (hJ : ∀ j ∈ J, j.1 < 1125899906842624) : ∀ k, ((ofSt s hp r J f k).2.Pairwise (· < ·) ∧ ∀ t ∈ (ofSt s hp r J f k).2, (f ≤ t ∧ 0 ≤ t ∧ t < 1125899906842624) ∧ t < (ofSt s hp r J f k).1) ∧ f ≤ (ofSt s hp r J f k).1
  | 0 => ⟨⟨List.Pairwise.nil, by intro t ht; cases ht⟩, Int.le_refl _⟩
  | k + 1 => by
    obtain ⟨⟨i1, i2⟩, i3⟩ := ofSt_asc hs hh hr hf hJ k
    have htk := ofSt_tick (s := s) (J := J) hh hr hf k
    cases hj : J[k]? with
    | none => rw [ofSt, hj]; exact ⟨⟨i1, i2⟩, i3⟩
    | some j =>
      by_cases h0 : js (J.take (k + 1)) = 0
      · rw [ofSt_zero hj h0]; exact ⟨⟨i1, i2⟩, i3⟩
      · rw [ofSt_next hj h0]
        simp only
        have hjx := hJ j (List.mem_of_getElem? hj)
        generalize (ofSt s hp r J f k).1 = F at *
        have hlo : ∀ t ∈ ofU s hp r F J k j.1, F ≤ t := fun t ht => by
          have h1 := (hT_in hh ht).1
          unfold hA at h1
          have h2 := hbeg_in (h := hp) (x := if F ≤ j.1 - s + 1 then j.1 - s + 1 else F) hh (by split <;> omega)
          split at h1 <;> split at h2 <;> omega
        have hin : ∀ t ∈ ofU s hp r F J k j.1, 0 ≤ t ∧ t < 1125899906842624 := fun t ht => ofU_in hh hr ht
        have hasc : (ofU s hp r F J k j.1).Pairwise (· < ·) := hT_asc hh
        generalize ofU s hp r F J k j.1 = U at *
        have hlast : ∀ t ∈ U, t < (U.getLast?.map (· + 1)).getD F := fun t ht => by
          cases hl : U.getLast? with
          | none => rw [List.getLast?_eq_none_iff] at hl; rw [hl] at ht; cases ht
          | some z =>
            simp only [Option.map_some, Option.getD_some]
            obtain ⟨V, rfl⟩ := List.getLast?_eq_some_iff.1 hl
            rcases List.mem_append.1 ht with ht | ht
            · have := (List.pairwise_append.1 hasc).2.2 t ht z (by simp); omega
            · obtain rfl := List.mem_singleton.1 ht; omega
        have hge : F ≤ (U.getLast?.map (· + 1)).getD F := by
          cases hl : U.getLast? with
          | none => simp
          | some z => have := hlo z (List.mem_of_getLast? hl); simp only [Option.map_some, Option.getD_some]; omega
        refine ⟨⟨List.pairwise_append.2 ⟨i1, hasc, fun x hx y hy => ?_⟩, fun t ht => ?_⟩, by omega⟩
        · have := (i2 x hx).2; have := hlo y hy; omega
        · rcases List.mem_append.1 ht with ht | ht
          · have := i2 t ht; omega
          · have := hlo t ht; have := hin t ht; have := hlast t ht; omega
theorem ofL_asc {s hp r : Int} {J : List Jp} {f : Int} (hs : 1 ≤ s) (hh : 1 ≤ hp) (hr : r ≤ 1125899906842624) (hf : 0 ≤ f ∧ f ≤ 1125899906842624) (hJ : mayJ J = true) : (ofL s hp r J f).Pairwise (· < ·) ∧ ∀ t ∈ ofL s hp r J f, f ≤ t ∧ 0 ≤ t ∧ t < 1125899906842624 := by
  have := (ofSt_asc (J := J) (f := f) hs hh hr hf (fun j hj => (mayJ_at hJ j hj).2) J.length).1
  exact ⟨this.1, fun t ht => (this.2 t ht).1⟩
theorem asc_nodup {l : List Int} (h : l.Pairwise (· < ·)) : l.Nodup := h.imp fun {a b} hab e => by omega
theorem asc_fresh {l : List Int} (h : l.Pairwise (· < ·)) {m : Nat} {t : Int} (ht : l[m]? = some t) : t ∉ l.take m := by
  intro hm
  obtain ⟨i, hi⟩ := List.getElem?_of_mem hm
  have hil : i < m := by have := (List.getElem?_eq_some_iff.1 hi).1; rw [List.length_take] at this; omega
  rw [List.getElem?_take_of_lt hil] at hi
  obtain ⟨h1, e1⟩ := List.getElem?_eq_some_iff.1 hi
  obtain ⟨h2, e2⟩ := List.getElem?_eq_some_iff.1 ht
  have := (List.pairwise_iff_getElem.1 h) i m h1 h2 hil
  rw [e1, e2] at this
  omega
/-- The rows of a window. -/
def hrows (s hp f r : Int) (G : List Gp) (t : Int) : List Cp := (G.filter fun g => decide (t ∈ ofL s hp r g.2 f)).map fun g => (g.1, copN g.2 t (hend s t))
theorem hrows_next {s hp f r : Int} {G : List Gp} {k : Nat} {g : Gp} (h : G[k]? = some g) (t : Int) : hrows s hp f r (G.take (k + 1)) t = hrows s hp f r (G.take k) t ++ (if t ∈ ofL s hp r g.2 f then [(g.1, copN g.2 t (hend s t))] else []) := by
  unfold hrows
  rw [List.take_add_one, h, List.filter_append, List.map_append]
  congr 1
  by_cases hb : t ∈ ofL s hp r g.2 f
  · rw [if_pos hb, Option.toList_some, List.filter_cons_of_pos (by simpa using hb)]; rfl
  · rw [if_neg hb, Option.toList_some, List.filter_cons_of_neg (by simpa using hb)]; rfl
theorem hrows_len (s hp f r : Int) (G : List Gp) (t : Int) (k : Nat) : (hrows s hp f r (G.take k) t).length ≤ k := by
  unfold hrows
  rw [List.length_map]
  have := List.length_filter_le (fun g : Gp => decide (t ∈ ofL s hp r g.2 f)) (G.take k)
  rw [List.length_take] at this
  omega
/-- Where the windows begin that have rows, each once, in order. -/
def insAll (l : List Int) : List Int := l.foldl ins []
theorem insAll_gen : ∀ (l a : List Int), a.Pairwise (· < ·) → (l.foldl ins a).Pairwise (· < ·) ∧ ∀ x, x ∈ l.foldl ins a ↔ x ∈ a ∨ x ∈ l
  | [], a, h => ⟨h, by simp⟩
  | t :: l, a, h => by
    obtain ⟨h1, h2⟩ := insAll_gen l (ins a t) (ins_asc t h)
    refine ⟨h1, fun x => ?_⟩
    rw [List.foldl_cons, h2 x, ins_mem, List.mem_cons]
    constructor
    · rintro ((h | h) | h)
      · exact .inr (.inl h)
      · exact .inl h
      · exact .inr (.inr h)
    · rintro (h | h | h)
      · exact .inl (.inr h)
      · exact .inl (.inl h)
      · exact .inr h
theorem insAll_asc (l : List Int) : (insAll l).Pairwise (· < ·) := (insAll_gen l [] List.Pairwise.nil).1
theorem insAll_mem (l : List Int) (x : Int) : x ∈ insAll l ↔ x ∈ l := by have := (insAll_gen l [] List.Pairwise.nil).2 x; simpa [insAll] using this
def hkeys (s hp f r : Int) (G : List Gp) : List Int := insAll (G.flatMap fun g => ofL s hp r g.2 f)
theorem hkeys_asc (s hp f r : Int) (G : List Gp) : (hkeys s hp f r G).Pairwise (· < ·) := insAll_asc _
theorem hkeys_mem {s hp f r : Int} {G : List Gp} {t : Int} : t ∈ hkeys s hp f r G ↔ ∃ g ∈ G, t ∈ ofL s hp r g.2 f := by unfold hkeys; rw [insAll_mem, List.mem_flatMap]
theorem hrows_none {s hp f r : Int} {G : List Gp} {t : Int} : hrows s hp f r G t ≠ [] ↔ t ∈ hkeys s hp f r G := by
  rw [hkeys_mem]
  unfold hrows
  constructor
  · intro h
    cases hf : G.filter fun g => decide (t ∈ ofL s hp r g.2 f) with
    | nil => rw [hf] at h; exact absurd rfl h
    | cons g l =>
      have : g ∈ G.filter fun g => decide (t ∈ ofL s hp r g.2 f) := by rw [hf]; simp
      rw [List.mem_filter, decide_eq_true_iff] at this
      exact ⟨g, this.1, this.2⟩
  · rintro ⟨g, hg, ht⟩ h
    have h1 : g ∈ G.filter fun g => decide (t ∈ ofL s hp r g.2 f) := by rw [List.mem_filter, decide_eq_true_iff]; exact ⟨hg, ht⟩
    rw [List.map_eq_nil_iff] at h
    rw [h] at h1
    cases h1
/-- A window's entry: where it begins, the slice of its copies, the copies. -/
abbrev Eh := Int × Value × List Vc
def kentH (p : Eh) : Lit × Value := (.int .i64 p.1, p.2.1)
theorem kh_same (s : Eh) (t : Int) : (kentH s).1.sameKey (.int .i64 t) = decide (s.1 = t) := by
  unfold kentH
  by_cases h : s.1 = t <;> simp [Lit.sameKey, h]
def getH (T : List Eh) (t : Int) : Option Eh := T.find? fun p => decide (p.1 = t)
theorem getM_h (T : List Eh) (t : Int) : getM kentH T (.int .i64 t) = getH T t := by
  unfold getM getH
  congr 1
  funext p
  exact kh_same p t
theorem getH_put (T : List Eh) (x : Eh) (t : Int) : getH (putM kentH T x) t = if x.1 = t then some x else getH T t := by
  unfold putM delM getH
  rw [List.find?_cons]
  by_cases h : x.1 = t
  · simp [h]
  · rw [if_neg h]
    simp only [h, decide_false]
    induction T with
    | nil => rfl
    | cons p T ih =>
      rw [List.filter_cons, show (kentH p).1.sameKey (kentH x).1 = decide (p.1 = x.1) from kh_same p x.1]
      by_cases h2 : p.1 = x.1
      · rw [if_neg (by simp [h2]), List.find?_cons, show decide (p.1 = t) = false by simp; omega]
        exact ih
      · rw [if_pos (by simp [h2]), List.find?_cons, List.find?_cons]
        split
        · rfl
        · exact ih
theorem putH_mem {T : List Eh} {x p : Eh} (h : p ∈ putM kentH T x) : p = x ∨ (p ∈ T ∧ p.1 ≠ x.1) := by
  unfold putM delM at h
  rcases List.mem_cons.1 h with h | h
  · exact .inl h
  · rw [List.mem_filter, show (kentH p).1.sameKey (kentH x).1 = decide (p.1 = x.1) from kh_same p x.1] at h
    exact .inr ⟨h.1, by simpa using h.2⟩
def rowsH (T : List Eh) (t : Int) : List Cp := ((getH T t).map fun p => cps p.2.2).getD []
theorem rowsH_put (T : List Eh) (x : Eh) (t : Int) : rowsH (putM kentH T x) t = if x.1 = t then cps x.2.2 else rowsH T t := by
  unfold rowsH
  rw [getH_put]
  by_cases h : x.1 = t
  · rw [if_pos h, if_pos h]; rfl
  · rw [if_neg h, if_neg h]
/-- A map of windows in memory. -/
def GrpH (W : World) (B mb n : Nat) (T : List Eh) : Prop := Mv W Tryz.prog 3 kentH mb n T ∧ ((∀ p, ∀ (_ : p ∈ T), OwnC W B p.2.1 p.2.2) ∧ ((∀ p ∈ T, p.2.2 ≠ [] ∧ (0 ≤ p.1 ∧ p.1 < 1125899906842624)) ∧ T.Pairwise fun p q => ∀ b ∈ ob p.2.1, b ∉ ob q.2.1))
theorem OwnC.stab {B B0 : Nat} {v : Value} {L : List Vc} : Stab B fun W => OwnC W B0 v L := (Stab.own _ _ _ _ _ _).and (Stab.all fun p => Stab.all fun _ => Stab.own _ _ _ _ _ _)
theorem GrpH.stab {B B0 mb n : Nat} {T : List Eh} (h : mb < B) : Stab B fun W => GrpH W B0 mb n T := (Stab.mv h).and ((Stab.all fun p => Stab.all fun _ => OwnC.stab).and (Stab.pure _))
theorem hKey : Go.Maps.Keyed Tryz.prog 3 := Go.Maps.int_keyed Tryz.underlying3
theorem hkey_of {t : Int} (h : -9223372036854775808 ≤ t ∧ t ≤ 9223372036854775807) : keyOf Tryz.prog 3 (.int .i64 t) = some (.int .i64 t) := Go.Maps.keyOf_int_mk Tryz.underlying3 (by simp [Lit.wf, IntKind.min, IntKind.max, IntKind.bits, IntKind.signed]; omega)
theorem GrpH.nodup {W : World} {B mb n : Nat} {T : List Eh} (h : GrpH W B mb n T) : (T.map Prod.fst).Nodup := by
  unfold List.Nodup
  rw [List.pairwise_map]
  exact (h.1.apart hKey).1.imp fun hne e => hne (by unfold kentH; rw [e])
theorem getH_mem {T : List Eh} {t : Int} {p : Eh} (h : getH T t = some p) : p ∈ T ∧ p.1 = t := by
  unfold getH at h
  exact ⟨List.mem_of_find?_eq_some h, by simpa using List.find?_some h⟩
theorem getH_of {T : List Eh} (hn : (T.map Prod.fst).Nodup) {p : Eh} (hp : p ∈ T) : getH T p.1 = some p := by
  unfold getH
  induction T with
  | nil => cases hp
  | cons q T ih =>
    rw [List.find?_cons]
    rw [List.map_cons, List.nodup_cons] at hn
    rcases List.mem_cons.1 hp with rfl | hp
    · simp
    · have : q.1 ≠ p.1 := fun e => hn.1 (by rw [e]; exact List.mem_map.2 ⟨p, hp, rfl⟩)
      rw [show decide (q.1 = p.1) = false by simpa using this]
      exact ih hn.2 hp
/-- The keys are where rows are told. -/
theorem keys_of {T : List Eh} (hn : (T.map Prod.fst).Nodup) (he : ∀ p ∈ T, p.2.2 ≠ []) (t : Int) : t ∈ T.map Prod.fst ↔ rowsH T t ≠ [] := by
  constructor
  · intro h
    obtain ⟨p, hp, rfl⟩ := List.mem_map.1 h
    unfold rowsH
    rw [getH_of hn hp]
    simpa using he p hp
  · intro h
    unfold rowsH at h
    cases hg : getH T t with
    | none => rw [hg] at h; exact absurd rfl h
    | some p => obtain ⟨h1, h2⟩ := getH_mem hg; exact List.mem_map.2 ⟨p, h1, h2⟩
end Go.Proofs.YtljkneajdndgjaaGreat
