/-
  A helper of ours: no claim of its own. Layer 13 (fold): events that were cancelled are deleted in place.
-/
import Derived.Test.YtobmjcehgpmfgaaGreatFolXE
import Derived.Test.YtobmjcehgpmfgaaGreatStepV
set_option linter.unusedVariables false
set_option linter.unusedSimpArgs false
namespace Go.Proofs.YtobmjcehgpmfgaaGreat
open Go.RowKit
attribute [local go_sem] GW.cell GW.frozen In.eq_true In.le_true In.ne In.ne' In.ne_add In.ne_add' In.lt_add Upto.le_true Upto.le_add Upto.lt_add
abbrev evs (L : List (Value × Ex)) : List Value := L.flatMap fun p => evO p.1 p.2
theorem evs_get : ∀ (L : List (Value × Ex)) (i : Nat) (p : Value × Ex), L[i]? = some p → ∀ j u, (evO p.1 p.2)[j]? = some u → (evs L)[i * 4 + j]? = some u
  | q :: r, 0, p, h, j, u, hu => by
    simp at h; subst h
    have hj : j < (evO q.1 q.2).length := (List.getElem?_eq_some_iff.1 hu).1
    rw [show evs (q :: r) = evO q.1 q.2 ++ evs r by simp [evs], List.getElem?_append_left (by omega), show 0 * 4 + j = j by omega]; exact hu
  | q :: r, i + 1, p, h, j, u, hu => by
    have := evs_get r i p (by simpa using h) j u hu
    rw [show evs (q :: r) = evO q.1 q.2 ++ evs r by simp [evs], show (i + 1) * 4 + j = (evO q.1 q.2).length + (i * 4 + j) by simp [evO]; omega, List.getElem?_append_right (by omega), Nat.add_sub_cancel_left]
    exact this
theorem evs_set (n1 n2 : Int) : ∀ (L : List (Value × Ex)) (i : Nat) (p : Value × Ex), L[i]? = some p → evs (L.set i (p.1, (p.2.1, (n1, n2)))) = ((evs L).set (i * 4 + 2) (.int .i64 n1)).set (i * 4 + 3) (.int .i64 n2)
  | q :: r, 0, p, h => by
    simp at h; subst h
    simp [evs, evO]
  | q :: r, i + 1, p, h => by
    have ih := evs_set n1 n2 r i p (by simpa using h)
    have e : evs (q :: r) = evO q.1 q.2 ++ evs r := by simp [evs]
    have hl : (evO q.1 q.2).length = 4 := rfl
    rw [List.set_cons_succ, show evs (q :: r.set i (p.1, (p.2.1, (n1, n2)))) = evO q.1 q.2 ++ evs (r.set i (p.1, (p.2.1, (n1, n2)))) by simp [evs], ih, e]
    rw [List.set_append_right _ _ (by rw [hl]; omega), List.set_append_right _ _ (by rw [hl]; omega), hl]
    congr 2
    · congr 1; omega
    · omega
set_option maxHeartbeats 8000000 in
set_option maxRecDepth 100000 in
theorem evtPut2_c (wA : World) (B s mb : Nat) (L : List (Value × Ex)) (k i f t : Int) (hk : k ≠ 1) (u v : Value) (VA : Option Addr) (vl vc : Nat) (hv : v = .slice VA vl vc) (cs : Nat) (cr : List Vl) (o1 o2 n1 n2 : Int) (hu : Rw wA [] u cr) (h0 : decide (0 < cs) = true) (p : Value × Ex) (hp : L[cs - 1]? = some p) (e : Int) (hl : L.length ≤ 100000) (w : World) (h : BxE w wA.heap.size B L) (hX : Ext wA w) (hst : StOk w s mb) :
    Calls Tryz.prog 99 #[mg k i f t v, chV u (cs, cr, (o1, o2), (n1, n2)), .int .i64 e, .pointer (some ⟨B, 0, none⟩)] w fun r w' => r = .returned (.tuple #[]) ∧ (∃ L', BxE w' wA.heap.size B L' ∧ L'.map Prod.snd = (L.map Prod.snd).set (cs - 1) (p.2.1, (n1, n2))) ∧ Ext wA w' ∧ w'.heap[s]? = w.heap[s]? ∧ w'.heap[mb]? = w.heap[mb]? := by
  obtain ⟨UA, uc, eu⟩ := rw_val hu
  subst hv; subst eu
  have hic := hide (fun w => isChange_c UA cr.length uc (cs, cr, (o1, o2), (n1, n2)) w)
  simp only at hic
  rw [h0] at hic
  have hk1 : (k == 1) = false := by simp [hk]
  have hcs : 1 ≤ cs := of_decide_eq_true h0
  obtain ⟨j, hjc⟩ : ∃ j, j = cs - 1 := ⟨_, rfl⟩
  rw [← hjc] at hp ⊢
  have hsub : (cs : Int) - 1 = (j : Int) := by omega
  have hj : j < L.length := (List.getElem?_eq_some_iff.1 hp).1
  obtain ⟨sv, hO, ho, hB⟩ := h
  obtain ⟨g, cap, cur, rfl, hgb, hg, r⟩ : ∃ g cap cur, sv = .slice (some ⟨g, 0, none⟩) L.length cap ∧ wA.heap.size ≤ g ∧ w.heap[g]? = some (.cells cur 75) ∧ L.length ≤ cap := by
    rcases ho.1.2 with ⟨-, h2⟩ | ⟨g, cap, cur, e1, hb, hg, hn, -⟩
    · omega
    · exact ⟨g, cap, cur, e1, hb, hg, hn⟩
  have c2 := ho.1.cells (g := g) rfl (j * 4 + 2) _ (evs_get L j p hp 2 _ rfl)
  have c3 := ho.1.cells (g := g) rfl (j * 4 + 3) _ (evs_get L j p hp 3 _ rfl)
  rw [add_plain, Nat.zero_add] at c2 c3
  have z2 := frozen_of_row w g (j * 4 + 2) cur 75 hg
  have z3 := frozen_of_row w g (j * 4 + 3) cur 75 hg
  have hgl := block_lt_of_cell c2
  haveI : In g w := ⟨hgl⟩
  have hlt := hO.lt
  have q0 := hO.cell 0 rfl
  haveI : In B w := ⟨hlt⟩
  have hne1 := hst.ne_ob hO (by decide)
  have hne2 := hst.ne_own ho.1 (by decide)
  have hnB := hO.not_own ho.1 (by decide)
  have hjI : ((j : Int)) < L.length := by omega
  replace hO := hide hO
  replace ho := hide ho
  replace h0 := hide h0
  replace hg := hide hg
  replace hjc := hide hjc
  replace hcs := hide hcs
  go_enter Tryz.func99, Tryz.ntmps99
  go_wp2_with (go_at_call 97; first | ((with_reducible refine seq_gw' (hic.out _) ?_); intro g1) | ((with_reducible refine seq_gw (hic.out _) ?_); intro g1))
  go_end0
  have hXg := (Gn.ext (w := w) : Ext w g1.val)
  have hF : Fr [g] w ((g1.val.setCell ⟨g, j * 4 + 2, none⟩ (.int .i64 n1)).setCell ⟨g, j * 4 + 3, none⟩ (.int .i64 n2)) := ((Fr.of_ext (S := [g]) hXg).setCell ⟨g, j * 4 + 2, none⟩ (.int .i64 n1) (.inl (by simp))).setCell ⟨g, j * 4 + 3, none⟩ (.int .i64 n2) (.inl (by simp))
  have hob : g ∈ ob (.slice (some ⟨g, 0, none⟩) L.length cap) := by simp [ob, Value.ownBlock]
  have hP := put_done hF hX (by intro b hb; rw [List.mem_singleton.1 hb]; exact ⟨hgb, hne2 g hob⟩) hst
  have hNv := own_nt ho.out.1 (e := 113) (by decide) g hob
  refine ⟨rfl, ⟨L.set j (p.1, (p.2.1, (n1, n2))), ⟨.slice (some ⟨g, 0, none⟩) L.length cap, hO.out.fr hF (by simp only [List.mem_singleton]; intro e; subst e; exact hnB (by simp [Value.ownBlock])), ⟨?_, fun q hq => ?_⟩, hB⟩, by rw [List.map_set]⟩, hP⟩
  · have h1 := (World.ownsRow.stored (own_ext ho.out.1 hXg) (j * 4 + 2) (.int .i64 n1)).1
    have h2 := (World.ownsRow.stored h1 (j * 4 + 3) (.int .i64 n2)).1
    rw [List.length_set]
    have e := evs_set n1 n2 L j p hp
    unfold evs at e
    rw [e]
    exact h2
  · rcases List.mem_or_eq_of_mem_set hq with hq | rfl
    · exact (ho.out.2 q hq).stay hF (by intro b hb; rw [List.mem_singleton.1 hb]; exact hNv)
    · exact (RwO.stay (ho.out.2 p (List.mem_of_getElem? hp)) hF (by intro b hb; rw [List.mem_singleton.1 hb]; exact hNv) : RwO _ p.1 p.2.1.2)
end Go.Proofs.YtobmjcehgpmfgaaGreat
set_option linter.unusedVariables false
set_option linter.unusedSimpArgs false
namespace Go.Proofs.YtobmjcehgpmfgaaGreat
open Go.RowKit
attribute [local go_sem] GW.cell GW.frozen In.eq_true In.le_true In.ne In.ne' In.ne_add In.ne_add' In.lt_add Upto.le_true Upto.le_add Upto.lt_add
abbrev Le := Value × Ex
def goneX (x : Ex) : Bool := decide (x.2.1 = 0 ∧ x.2.2 = 0)
def filtE (L : List Le) : List Le := L.filter fun p => !goneX p.2
def idxE : Nat → List Le → Int
  | _, [] => -1
  | k, p :: r => if goneX p.2 = true then (k : Int) else idxE (k + 1) r
theorem filtE_next {l : List Le} {k : Nat} {x : Le} (hx : l[k]? = some x) : filtE (l.take (k + 1)) = if goneX x.2 = true then filtE (l.take k) else filtE (l.take k) ++ [x] := by
  unfold filtE
  rw [take_one hx, List.filter_append]
  cases h : goneX x.2 <;> simp [h]
theorem idxE_none : ∀ (l : List Le) (k : Nat), idxE k l = -1 → filtE l = l
  | [], _, _ => rfl
  | x :: r, k, h => by
    unfold idxE at h
    cases hx : goneX x.2
    · rw [hx] at h
      have := idxE_none r (k + 1) (by simpa using h)
      unfold filtE at this ⊢
      rw [List.filter_cons, hx]
      simp only [Bool.not_false, if_true]
      rw [this]
    · rw [hx, if_pos rfl] at h; omega
theorem idxE_some : ∀ (l : List Le) (k : Nat), idxE k l ≠ -1 → ∃ i, idxE k l = ((k + i : Nat) : Int) ∧ i < l.length ∧ filtE (l.take i) = l.take i ∧ ∃ x, l[i]? = some x ∧ goneX x.2 = true
  | [], _, h => absurd rfl h
  | x :: r, k, h => by
    unfold idxE at h ⊢
    cases hx : goneX x.2
    · rw [hx] at h
      simp only [Bool.false_eq_true, if_false] at h ⊢
      obtain ⟨i, h1, h2, h3, h4⟩ := idxE_some r (k + 1) h
      refine ⟨i + 1, by rw [h1]; congr 1; omega, by simp; omega, ?_, by simpa using h4⟩
      rw [List.take_succ_cons]
      unfold filtE at h3 ⊢
      rw [List.filter_cons, hx]
      simp only [Bool.not_false, if_true]
      rw [h3]
    · exact ⟨0, by simp, by simp, rfl, x, rfl, hx⟩
theorem edrop_cons {l : List Le} {k : Nat} {x : Le} (h : l[k]? = some x) : l.drop k = x :: l.drop (k + 1) := by
  obtain ⟨h1, h2⟩ := List.getElem?_eq_some_iff.1 h
  rw [List.drop_eq_getElem_cons h1, h2]
theorem evs_length (L : List Le) : (evs L).length = L.length * 4 := by
  induction L with
  | nil => rfl
  | cons p r ih => simp only [evs, evO, List.flatMap_cons, List.length_append, List.length_cons, List.length_nil] at ih ⊢; omega
theorem evs_take (L : List Le) (j : Nat) : (evs L).take (j * 4) = evs (L.take j) := by
  induction L generalizing j with
  | nil => simp [evs]
  | cons p r ih =>
    cases j with
    | zero => simp [evs]
    | succ j =>
      have e : evs (p :: r) = evO p.1 p.2 ++ evs r := by simp [evs]
      have hl : (evO p.1 p.2).length = 4 := rfl
      rw [e, List.take_succ_cons, show evs (p :: r.take j) = evO p.1 p.2 ++ evs (r.take j) by simp [evs], ← ih j, List.take_append, hl, List.take_of_length_le (by rw [hl]; omega)]
      congr 2
      omega
theorem evs_put (x : Le) : ∀ (L : List Le) (i : Nat), i < L.length → evs (L.set i x) = ((((evs L).set (i * 4) (.int .i64 x.2.1.1)).set (i * 4 + 1) x.1).set (i * 4 + 2) (.int .i64 x.2.2.1)).set (i * 4 + 3) (.int .i64 x.2.2.2)
  | q :: r, 0, h => by simp [evs, evO]
  | q :: r, i + 1, h => by
    have ih := evs_put x r i (by simpa using h)
    have e : evs (q :: r) = evO q.1 q.2 ++ evs r := by simp [evs]
    have hl : (evO q.1 q.2).length = 4 := rfl
    rw [List.set_cons_succ, show evs (q :: r.set i x) = evO q.1 q.2 ++ evs (r.set i x) by simp [evs], ih, e]
    rw [List.set_append_right _ _ (by rw [hl]; omega), List.set_append_right _ _ (by rw [hl]; omega), List.set_append_right _ _ (by rw [hl]; omega), List.set_append_right _ _ (by rw [hl]; omega), hl]
    rw [show (i + 1) * 4 - 4 = i * 4 by omega, show (i + 1) * 4 + 1 - 4 = i * 4 + 1 by omega, show (i + 1) * 4 + 2 - 4 = i * 4 + 2 by omega, show (i + 1) * 4 + 3 - 4 = i * 4 + 3 by omega]
set_option maxHeartbeats 1000000 in
theorem foldNone_c (a b : Int) (w : World) : Calls Tryz.prog 168 #[.agg #[.int .i64 a, .int .i64 b]] w fun e w' => e = .returned (.bool (decide (a = 0 ∧ b = 0))) ∧ Ext w w' := by
  by_cases ha : a = 0
  · subst ha
    by_cases hb : b = 0
    · subst hb
      go_enter Tryz.func168, Tryz.ntmps168
      go_wp2_with fail
      go_returns
      exact ⟨by simp, (Ext.refl w).alloc _⟩
    · have b0 : (b == 0) = false := by simp [hb]
      have b1 : decide (b = 0) = false := by simp [hb]
      go_enter Tryz.func168, Tryz.ntmps168
      go_wp2_with fail
      go_returns
      exact ⟨by simp [hb], (Ext.refl w).alloc _⟩
  · have a0 : (a == 0) = false := by simp [ha]
    have a1 : decide (a = 0) = false := by simp [ha]
    go_enter Tryz.func168, Tryz.ntmps168
    go_wp2_with fail
    go_returns
    exact ⟨by simp [ha], (Ext.refl w).alloc _⟩
set_option maxHeartbeats 1000000 in
theorem isCancelled_c (UA : Option Addr) (ul uc : Nat) (x : Ex) (w : World) : Calls Tryz.prog 101 #[evV (.slice UA ul uc) x] w fun e w' => e = .returned (.bool (goneX x)) ∧ Ext w w' := by
  obtain ⟨⟨xi, xr⟩, x1, x2⟩ := x
  have hn := hide (fun w => foldNone_c x1 x2 w)
  obtain ⟨R, hR⟩ : ∃ R, R = goneX ((xi, xr), (x1, x2)) := ⟨_, rfl⟩
  rw [← hR]
  unfold goneX at hR
  simp only at hR
  rw [← hR] at hn
  replace hR := hide hR
  go_enter Tryz.func101, Tryz.ntmps101
  go_wp2_with (go_at_call 168; first | ((with_reducible refine seq_gw' (hn.out _) ?_); intro g) | ((with_reducible refine seq_gw (hn.out _) ?_); intro g))
  go_returns
  exact ⟨rfl, ((Ext.refl w).alloc _).trans g.grown⟩
/-- An event's cells. -/
theorem own_evat {w : World} {base : Nat} {v : Value} {L : List Le} (h : OwnEx w base v L) {k : Nat} {p : Le} (hp : L[k]? = some p) : ∃ g cap PA pc, v = .slice (some ⟨g, 0, none⟩) L.length cap ∧ base ≤ g ∧ g < w.heap.size ∧ p.1 = .slice PA p.2.1.2.length pc ∧ w.cell? ⟨g, k * 4, none⟩ = some (.int .i64 p.2.1.1) ∧ w.cell? ⟨g, k * 4 + 1, none⟩ = some p.1 ∧ w.cell? ⟨g, k * 4 + 2, none⟩ = some (.int .i64 p.2.2.1) ∧ w.cell? ⟨g, k * 4 + 3, none⟩ = some (.int .i64 p.2.2.2) := by
  have hk : k < L.length := (List.getElem?_eq_some_iff.1 hp).1
  obtain ⟨PA, pc, e⟩ := rwo_val (h.2 p (List.mem_of_getElem? hp))
  rcases h.1.2 with ⟨-, h2⟩ | ⟨g, cap, cur, rfl, hb, hg, -⟩
  · omega
  · have c0 := h.1.cells (g := g) rfl (k * 4 + 0) _ (evs_get L k p hp 0 _ rfl)
    have c1 := h.1.cells (g := g) rfl (k * 4 + 1) _ (evs_get L k p hp 1 _ rfl)
    have c2 := h.1.cells (g := g) rfl (k * 4 + 2) _ (evs_get L k p hp 2 _ rfl)
    have c3 := h.1.cells (g := g) rfl (k * 4 + 3) _ (evs_get L k p hp 3 _ rfl)
    rw [add_plain, Nat.zero_add] at c0 c1 c2 c3
    exact ⟨g, cap, PA, pc, rfl, hb, block_lt_of_cell c0, e, c0, c1, c2, c3⟩
set_option maxHeartbeats 4000000 in
set_option maxRecDepth 100000 in
theorem evtIndex_c (L : List Le) (base : Nat) (v : Value) (w : World) (h : OwnEx w base v L) (hn : L.length ≤ 200000) : Calls Tryz.prog 167 #[v, .func (.func 101) #[] #[]] w fun e w' => e = .returned (.int .i64 (idxE 0 L)) ∧ Ext w w' := by
  obtain ⟨A, cap, rfl⟩ := h.form
  replace h := hide h
  obtain ⟨R, hR⟩ : ∃ R, R = idxE 0 L := ⟨_, rfl⟩
  rw [← hR]
  replace hR := hide hR
  go_enter Tryz.func167, Tryz.ntmps167
  go_wp2_with fail
  go_loopg [8] L.length (fun gh i wr => ∃ (k : Nat), i = .int .i64 k ∧ k + gh = L.length ∧ Hid (R = idxE k (L.drop k)) ∧ Ext w wr)
  case atStart => exact ⟨0, rfl, by omega, by simpa using hR, Ext.refl w⟩
  case round =>
    obtain ⟨k, rfl, hk, hRk, hX⟩ := hrel
    clear hR
    by_cases hlt : k < L.length
    · obtain ⟨x, hx⟩ : ∃ x, L[k]? = some x := ⟨_, List.getElem?_eq_getElem hlt⟩
      obtain ⟨g, cap', PA, pc, e1, -, hgl, e2, c0, c1, c2, c3⟩ := own_evat (h.out.ext hX) hx
      cases e1
      haveI : In g wr := ⟨hgl⟩
      have hin := hide (fun w => isCancelled_c PA x.2.1.2.length pc x.2 w)
      have hR2 := hRk.out
      rw [edrop_cons hx] at hR2
      simp only [idxE] at hR2
      replace hR2 := hide hR2
      obtain ⟨xv, ⟨xi, xr⟩, x1, x2⟩ := x
      simp only at e2 c0 c1 c2 c3 hin
      subst e2
      have hltI : (k : Int) < L.length := by omega
      clear hx hRk
      cases hmx : goneX ((xi, xr), (x1, x2))
      · simp only [hmx] at hin hR2
        replace hmx := hide hmx
        go_wp2_with (go_at_call 101; first | ((with_reducible refine seq_gw (hin.out _) ?_); intro g2) | ((with_reducible refine seq_gw' (hin.out _) ?_); intro g2))
        go_roundg (L.length - (k + 1))
        case measure => omega
        case rel => exact ⟨k + 1, by go_num, by omega, (by show _ = _; simpa using hR2.out), hX.trans g2.grown⟩
      · simp only [hmx] at hin hR2
        replace hmx := hide hmx
        go_wp2_with (go_at_call 101; first | ((with_reducible refine seq_gw (hin.out _) ?_); intro g2) | ((with_reducible refine seq_gw' (hin.out _) ?_); intro g2))
        go_returns
        exact ⟨by first | (rw [hR2.out]; simp; done) | (rw [hR2.out]; rfl), hX.trans g2.grown⟩
    · have hk' : k = L.length := by omega
      have hge : (L.length : Int) ≤ k := by omega
      have hRn : Hid (R = -1) := by show _ = _; rw [hRk.out, hk', List.drop_length]; rfl
      clear hRk h
      go_wp2_with fail
      go_returns
      exact ⟨by rw [hRn.out]; rfl, hX⟩
end Go.Proofs.YtobmjcehgpmfgaaGreat
