/-
  A helper of ours: no claim of its own. Windows in memory: copies of rows, and parts with their spans and copies.
-/
import Derived.Test.YtjdbjnpomndfjaaSnaS
import Derived.Test.YtjdbjnpomndfjaaIdx
import Derived.Test.YtjdbjnpomndfjaaEdgO
set_option linter.unusedVariables false
set_option linter.unusedSimpArgs false
namespace Go.Proofs.Ytjdbjnpomndfjaa
open Go.RowKit
/-- A copy as it lies: its row's slice, and the copy. -/
abbrev Vc := Value × Cp
def cc1 (p : Vc) : List Value := [p.1, .int .i64 p.2.2]
def cc (L : List Vc) : List Value := L.flatMap cc1
abbrev cps (L : List Vc) : List Cp := L.map Prod.snd
theorem cc_cons (p : Vc) (L : List Vc) : cc (p :: L) = cc1 p ++ cc L := by simp [cc]
theorem cc_append (L M : List Vc) : cc (L ++ M) = cc L ++ cc M := by simp [cc]
theorem cc_get : ∀ (L : List Vc) (i : Nat) (p : Vc), L[i]? = some p → ∀ j v, (cc1 p)[j]? = some v → (cc L)[i * 2 + j]? = some v
  | q :: r, 0, p, h, j, v, hv => by
    simp at h; subst h
    have hj : j < (cc1 q).length := (List.getElem?_eq_some_iff.1 hv).1
    rw [cc_cons, List.getElem?_append_left (by omega), show 0 * 2 + j = j by omega]; exact hv
  | q :: r, i + 1, p, h, j, v, hv => by
    have := cc_get r i p (by simpa using h) j v hv
    rw [cc_cons, show (i + 1) * 2 + j = (cc1 q).length + (i * 2 + j) by simp [cc1]; omega, List.getElem?_append_right (by omega), Nat.add_sub_cancel_left]
    exact this
theorem cc_set : ∀ (L : List Vc) (i : Nat) (p : Vc) (u : Value), L[i]? = some p → (cc L).set (i * 2) u = cc (L.set i (u, p.2))
  | q :: r, 0, p, u, h => by
    simp at h; subst h
    simp [cc_cons, cc1]
  | q :: r, i + 1, p, u, h => by
    have := cc_set r i p u (by simpa using h)
    rw [cc_cons, List.set_cons_succ, cc_cons, ← this, show (i + 1) * 2 = (cc1 q).length + i * 2 by simp [cc1]; omega, List.set_append_right _ _ (by omega), Nat.add_sub_cancel_left]
theorem cps_set {L : List Vc} {i : Nat} {p : Vc} (h : L[i]? = some p) (u : Value) : cps (L.set i (u, p.2)) = cps L := by
  apply List.ext_getElem?
  intro j
  rw [List.getElem?_map, List.getElem?_map, List.getElem?_set]
  by_cases hj : i = j
  · subst hj
    rw [if_pos rfl, h]
    have : i < L.length := (List.getElem?_eq_some_iff.1 h).1
    simp [this]
  · rw [if_neg hj]
/-- Copies, where they lie. -/
def Cw (w : World) (S : List Nat) (v : Value) (L : List Vc) : Prop := Sl w S 2 v L.length (cc L) ∧ ∀ p ∈ L, Rw w S p.1 p.2.1
/-- A part as it lies: the slice of its rows, its span, its copies. -/
abbrev Vp := Value × ((Int × Int) × List Vc)
def pt1 (p : Vp) : List Value := [.int .i64 p.2.1.1, .int .i64 p.2.1.2, p.1]
def pt (P : List Vp) : List Value := P.flatMap pt1
abbrev pts (P : List Vp) : List Pt := P.map fun p => (p.2.1, cps p.2.2)
theorem pt_cons (p : Vp) (L : List Vp) : pt (p :: L) = pt1 p ++ pt L := by simp [pt]
theorem pt_append (L M : List Vp) : pt (L ++ M) = pt L ++ pt M := by simp [pt]
theorem pts_append (L M : List Vp) : pts (L ++ M) = pts L ++ pts M := List.map_append
theorem pt_get : ∀ (L : List Vp) (i : Nat) (p : Vp), L[i]? = some p → ∀ j v, (pt1 p)[j]? = some v → (pt L)[i * 3 + j]? = some v
  | q :: r, 0, p, h, j, v, hv => by
    simp at h; subst h
    have hj : j < (pt1 q).length := (List.getElem?_eq_some_iff.1 hv).1
    rw [pt_cons, List.getElem?_append_left (by omega), show 0 * 3 + j = j by omega]; exact hv
  | q :: r, i + 1, p, h, j, v, hv => by
    have := pt_get r i p (by simpa using h) j v hv
    rw [pt_cons, show (i + 1) * 3 + j = (pt1 q).length + (i * 3 + j) by simp [pt1]; omega, List.getElem?_append_right (by omega), Nat.add_sub_cancel_left]
    exact this
/-- Parts, where they lie. -/
def Pw (w : World) (S : List Nat) (v : Value) (P : List Vp) : Prop := Sl w S 3 v P.length (pt P) ∧ ∀ p ∈ P, Cw w S p.1 p.2.2
section
variable {w w' : World} {S S' : List Nat} {v : Value} {L : List Vc} {P : List Vp}
theorem Cw.ext (h : Cw w S v L) (k : Ext w w') : Cw w' S v L := ⟨Sl.ext h.1 k, fun p hp => Sl.ext (h.2 p hp) k⟩
theorem Cw.fr (h : Cw w S v L) (k : Fr S' w w') (hs : ∀ b, b ∈ S' → b ∈ S) : Cw w' S v L := ⟨Sl.fr h.1 k hs, fun p hp => Sl.fr (h.2 p hp) k hs⟩
theorem Cw.less (h : Cw w S v L) (hs : ∀ b, b ∈ S' → b ∈ S) : Cw w S' v L := ⟨Sl.less h.1 hs, fun p hp => Sl.less (h.2 p hp) hs⟩
theorem Pw.ext (h : Pw w S v P) (k : Ext w w') : Pw w' S v P := ⟨Sl.ext h.1 k, fun p hp => (h.2 p hp).ext k⟩
theorem Pw.fr (h : Pw w S v P) (k : Fr S' w w') (hs : ∀ b, b ∈ S' → b ∈ S) : Pw w' S v P := ⟨Sl.fr h.1 k hs, fun p hp => (h.2 p hp).fr k hs⟩
theorem Pw.less (h : Pw w S v P) (hs : ∀ b, b ∈ S' → b ∈ S) : Pw w S' v P := ⟨Sl.less h.1 hs, fun p hp => (h.2 p hp).less hs⟩
theorem cw_form (h : Cw w S v L) : ∃ A cap, v = .slice A L.length cap ∧ L.length ≤ cap ∧ cap ≤ maxLen ∧
    ∀ (i : Nat) (p : Vc), L[i]? = some p → ∃ b o, A = some ⟨b, o, none⟩ ∧ b ∉ S ∧ b < w.heap.size ∧ w.cell? ⟨b, o + i * 2, none⟩ = some p.1 ∧ w.cell? ⟨b, o + i * 2 + 1, none⟩ = some (.int .i64 p.2.2) := by
  obtain ⟨A, cap, rfl, h1, h2, h3, h4⟩ := h.1
  refine ⟨A, cap, rfl, h1, h2, fun i p hp => ?_⟩
  have hg := cc_get L i p hp
  rcases h4 with h4 | ⟨b, o, rfl, hb, hc⟩
  · have := hg 0 p.1 rfl
    rw [h4] at this
    simp at this
  · have c0 := hc _ _ (hg 0 p.1 rfl)
    have c1 := hc _ _ (hg 1 _ rfl)
    exact ⟨b, o, rfl, hb, block_lt_of_cell c0, by simpa [Nat.add_assoc] using c0, by simpa [Nat.add_assoc] using c1⟩
theorem pw_form (h : Pw w S v P) : ∃ A cap, v = .slice A P.length cap ∧ P.length ≤ cap ∧ cap ≤ maxLen ∧
    ∀ (i : Nat) (p : Vp), P[i]? = some p → ∃ b o, A = some ⟨b, o, none⟩ ∧ b ∉ S ∧ b < w.heap.size ∧ w.cell? ⟨b, o + i * 3, none⟩ = some (.int .i64 p.2.1.1) ∧ w.cell? ⟨b, o + i * 3 + 1, none⟩ = some (.int .i64 p.2.1.2) ∧ w.cell? ⟨b, o + i * 3 + 1 + 1, none⟩ = some p.1 := by
  obtain ⟨A, cap, rfl, h1, h2, h3, h4⟩ := h.1
  refine ⟨A, cap, rfl, h1, h2, fun i p hp => ?_⟩
  have hg := pt_get P i p hp
  rcases h4 with h4 | ⟨b, o, rfl, hb, hc⟩
  · have := hg 0 _ rfl
    rw [h4] at this
    simp at this
  · have c0 := hc _ _ (hg 0 _ rfl)
    have c1 := hc _ _ (hg 1 _ rfl)
    have c2 := hc _ _ (hg 2 _ rfl)
    exact ⟨b, o, rfl, hb, block_lt_of_cell c0, by simpa [Nat.add_assoc] using c0, by simpa [Nat.add_assoc] using c1, by simpa [Nat.add_assoc] using c2⟩
theorem Cw.one (h : Cw w S v L) : ∀ u ∈ cc L, u.oneCell' = true := by
  intro u hu
  simp only [cc, List.mem_flatMap, cc1] at hu
  obtain ⟨p, hp, hu⟩ := hu
  simp at hu
  rcases hu with rfl | rfl
  · exact row_one (h.2 p hp)
  · rfl
end
/-- A slice of one's own stays where other blocks are turned. -/
theorem own_away {w w' : World} {S : List Nat} {base e sz n : Nat} {v : Value} {xs : List Value} (h : w.ownsRow base e sz v n xs) (hF : Fr S w w') (hS : ∀ b ∈ S, b ∉ ob v) : w'.ownsRow base e sz v n xs := by
  refine ⟨h.1, ?_⟩
  rcases h.2 with h2 | ⟨g, cap, cur, rfl, hb, hg, r⟩
  · exact .inl h2
  · exact .inr ⟨g, cap, cur, rfl, hb, (hF.block g (lt_of_block hg) (fun m => hS g m (by simp [ob, Value.ownBlock]))).trans hg, r⟩
theorem own_kind {w : World} {base e sz n : Nat} {v : Value} {xs : List Value} (h : w.ownsRow base e sz v n xs) {b : Nat} (hb : b ∈ ob v) : ∃ cs c, w.heap[b]? = some (.cells cs e c) := by
  rcases h.2 with ⟨rfl, -⟩ | ⟨g, cap, cur, rfl, -, hg, -⟩
  · simp [ob, Value.ownBlock] at hb
  · have : b = g := by simpa [ob, Value.ownBlock] using hb
    subst this
    exact ⟨_, _, hg⟩
theorem own_far {w : World} {b1 e1 s1 n1 b2 e2 s2 n2 : Nat} {v1 v2 : Value} {xs1 xs2 : List Value} (h : w.ownsRow b1 e1 s1 v1 n1 xs1) (k : w.ownsRow b2 e2 s2 v2 n2 xs2) (he : e1 ≠ e2) : ∀ b ∈ ob v1, b ∉ ob v2 := by
  intro b h1 h2
  obtain ⟨cs, c, g1⟩ := own_kind h h1
  obtain ⟨ds, d, g2⟩ := own_kind k h2
  rw [g1] at g2
  injection g2 with g2
  injection g2 with _ g2
  exact he g2
/-- Copies of one's own; parts of one's own. -/
def OwnC (w : World) (B : Nat) (v : Value) (L : List Vc) : Prop := w.ownsRow B 77 2 v L.length (cc L) ∧ ∀ p ∈ L, OwnR w 0 p.1 p.2.1
def OwnP (w : World) (B : Nat) (v : Value) (P : List Vp) : Prop := w.ownsRow B 38 3 v P.length (pt P) ∧ ∀ p ∈ P, OwnC w B p.1 p.2.2
/-- No two parts share the block of their rows. -/
def Dis (P : List Vp) : Prop := P.Pairwise fun p q => ∀ b ∈ ob p.1, b ∉ ob q.1
section
variable {w w' : World} {S : List Nat} {B B' : Nat} {v : Value} {L : List Vc} {P : List Vp}
theorem OwnC.nil (w : World) (B : Nat) : OwnC w B (.slice none 0 0) [] := ⟨World.ownsRow_nil _ _ _ _, by simp⟩
theorem OwnP.nil (w : World) (B : Nat) : OwnP w B (.slice none 0 0) [] := ⟨World.ownsRow_nil _ _ _ _, by simp⟩
theorem OwnC.ext (h : OwnC w B v L) (k : Ext w w') : OwnC w' B v L := ⟨own_ext h.1 k, fun p hp => own_ext (h.2 p hp) k⟩
theorem OwnP.ext (h : OwnP w B v P) (k : Ext w w') : OwnP w' B v P := ⟨own_ext h.1 k, fun p hp => (h.2 p hp).ext k⟩
theorem OwnC.base (h : OwnC w B v L) (hb : B' ≤ B) : OwnC w B' v L := ⟨own_base h.1 hb, h.2⟩
theorem OwnP.base (h : OwnP w B v P) (hb : B' ≤ B) : OwnP w B' v P := ⟨own_base h.1 hb, fun p hp => (h.2 p hp).base hb⟩
theorem OwnC.cw (h : OwnC w B v L) : Cw w [] v L := ⟨Sl.own h.1 (by simp), fun p hp => Sl.own (h.2 p hp) (by simp)⟩
theorem OwnP.pw (h : OwnP w B v P) : Pw w [] v P := ⟨Sl.own h.1 (by simp), fun p hp => (h.2 p hp).cw⟩
/-- Copies stay, where blocks are turned that are neither theirs nor rows. -/
theorem OwnC.away (h : OwnC w B v L) (hF : Fr S w w') (hS : ∀ b ∈ S, b ∉ ob v ∧ ∀ cs c, w.heap[b]? ≠ some (.cells cs 62 c)) : OwnC w' B v L :=
  ⟨own_away h.1 hF fun b hb => (hS b hb).1, fun p hp => own_away (h.2 p hp) hF fun b hb hb2 => by
    obtain ⟨cs, c, hc⟩ := own_kind (h.2 p hp) hb2
    exact (hS b hb).2 cs c hc⟩
theorem OwnP.away (h : OwnP w B v P) (hF : Fr S w w') (hS : ∀ b ∈ S, (b ∉ ob v ∧ ∀ p ∈ P, b ∉ ob p.1) ∧ ∀ cs c, w.heap[b]? ≠ some (.cells cs 62 c)) : OwnP w' B v P :=
  ⟨own_away h.1 hF fun b hb => (hS b hb).1.1, fun p hp => (h.2 p hp).away hF fun b hb => ⟨(hS b hb).1.2 p hp, (hS b hb).2⟩⟩
theorem OwnC.form (h : OwnC w B v L) : ∃ A cap, v = .slice A L.length cap := own_form h.1
theorem OwnP.form (h : OwnP w B v P) : ∃ A cap, v = .slice A P.length cap := own_form h.1
theorem copy_no_value {g : Nat} {cs : Array Value} {c : Nat × Nat} (h : w.heap[g]? = some (.cells cs 77 c)) : ∀ cs c, w.heap[g]? ≠ some (.cells cs 62 c) := by
  intro ds d hd
  rw [h] at hd
  injection hd with hd
  injection hd with _ hd
  exact absurd hd (by decide)
theorem own_block2 {base e sz n : Nat} {xs : List Value} (h : w.ownsRow base e sz v n xs) (hn : 0 < n) : ∃ g cap, v = .slice (some ⟨g, 0, none⟩) n cap ∧ base ≤ g ∧ g < w.heap.size := by
  rcases h.2 with ⟨-, h0⟩ | ⟨g, cap, cur, rfl, hb, hg, -⟩
  · omega
  · exact ⟨g, cap, rfl, hb, lt_of_block hg⟩
/-- A row is put in another one's place, of the same values. -/
theorem OwnC.set {g n cap k : Nat} {c : Vc} {u : Value} (h : OwnC w B (.slice (some ⟨g, 0, none⟩) n cap) L) (hk : L[k]? = some c) (hu : OwnR w 0 u c.2.1) : OwnC (w.setCell ⟨g, k * 2, none⟩ u) B (.slice (some ⟨g, 0, none⟩) n cap) (L.set k (u, c.2)) := by
  obtain ⟨h1, h2⟩ := h
  obtain ⟨A, cp, e⟩ := own_form h1
  simp only [Value.slice.injEq] at e
  obtain ⟨rfl, rfl, rfl⟩ := e
  obtain ⟨cs, cn, hc⟩ := own_kind h1 (b := g) (by simp [ob, Value.ownBlock])
  have hF : Fr [g] w (w.setCell ⟨g, k * 2, none⟩ u) := (Fr.refl [g] w).setCell ⟨g, k * 2, none⟩ u (.inl (by simp))
  have hrow : ∀ x r, OwnR w 0 x r → OwnR (w.setCell ⟨g, k * 2, none⟩ u) 0 x r := fun x r hx => own_away hx hF fun b hb hb2 => by
    rw [List.mem_singleton] at hb
    subst hb
    obtain ⟨ds, d, hd⟩ := own_kind hx hb2
    exact copy_no_value hc _ _ hd
  have hs := (World.ownsRow.stored h1 (k * 2) u).1
  rw [cc_set L k c u hk] at hs
  refine ⟨by rw [List.length_set]; exact hs, fun p hp => ?_⟩
  rcases List.mem_or_eq_of_mem_set hp with hp | rfl
  · exact hrow _ _ (h2 p hp)
  · exact hrow _ _ hu
theorem OwnP.set {g n cap i k : Nat} {p : Vp} {c : Vc} {u : Value} (h : OwnP w B v P) (hd : Dis P) (hi : P[i]? = some p) (hp : p.1 = .slice (some ⟨g, 0, none⟩) n cap) (hk : p.2.2[k]? = some c) (hu : OwnR w 0 u c.2.1) : OwnP (w.setCell ⟨g, k * 2, none⟩ u) B v (P.set i (p.1, p.2.1, p.2.2.set k (u, c.2))) := by
  have hpm := List.mem_of_getElem? hi
  have hil : i < P.length := (List.getElem?_eq_some_iff.1 hi).1
  have hg : g ∈ ob p.1 := by rw [hp]; simp [ob, Value.ownBlock]
  obtain ⟨cs, cn, hc⟩ := own_kind (h.2 p hpm).1 hg
  have hF : Fr [g] w (w.setCell ⟨g, k * 2, none⟩ u) := (Fr.refl [g] w).setCell ⟨g, k * 2, none⟩ u (.inl (by simp))
  refine ⟨?_, fun q hq => ?_⟩
  · have h1 := own_away h.1 hF fun b hb => by
      rw [List.mem_singleton] at hb
      subst hb
      exact own_far (h.2 p hpm).1 h.1 (by decide) b hg
    have e : pt (P.set i (p.1, p.2.1, p.2.2.set k (u, c.2))) = pt P := by
      rw [pt, pt, List.flatMap_def, List.flatMap_def, List.map_set]
      congr 1
      apply List.ext_getElem?
      intro j
      rw [List.getElem?_set]
      by_cases hj : i = j
      · subst hj
        rw [if_pos rfl, List.length_map, if_pos hil, List.getElem?_map, hi]
        rfl
      · rw [if_neg hj]
    rw [List.length_set, e]
    exact h1
  · obtain ⟨j, hj⟩ := List.getElem?_of_mem hq
    rw [List.getElem?_set] at hj
    by_cases hij : i = j
    · subst hij
      rw [if_pos rfl, if_pos hil] at hj
      obtain rfl := Option.some.inj hj
      have := h.2 p hpm
      simp only
      rw [hp] at this ⊢
      exact this.set hk hu
    · rw [if_neg hij] at hj
      have hqm := List.mem_of_getElem? hj
      have hne : g ∉ ob q.1 := by
        unfold Dis at hd
        rw [List.pairwise_iff_getElem] at hd
        have hjl : j < P.length := (List.getElem?_eq_some_iff.1 hj).1
        have e1 : P[i] = p := by rw [List.getElem?_eq_getElem hil] at hi; exact Option.some.inj hi
        have e2 : P[j] = q := by rw [List.getElem?_eq_getElem hjl] at hj; exact Option.some.inj hj
        rcases Nat.lt_or_gt_of_ne hij with hlt | hlt
        · have := hd i j hil hjl hlt
          rw [e1, e2] at this
          exact this g hg
        · have := hd j i hjl hil hlt
          rw [e1, e2] at this
          exact fun h => this g h hg
      exact (h.2 q hqm).away hF fun b hb => by
        rw [List.mem_singleton] at hb
        subst hb
        exact ⟨hne, copy_no_value hc⟩
end
theorem Dis.same {P Q : List Vp} (h : Dis P) (e : Q.map Prod.fst = P.map Prod.fst) : Dis Q := by
  unfold Dis at h ⊢
  have h1 : (P.map Prod.fst).Pairwise fun a b => ∀ x ∈ ob a, x ∉ ob b := by rw [List.pairwise_map]; exact h
  rw [← e, List.pairwise_map] at h1
  exact h1
end Go.Proofs.Ytjdbjnpomndfjaa
