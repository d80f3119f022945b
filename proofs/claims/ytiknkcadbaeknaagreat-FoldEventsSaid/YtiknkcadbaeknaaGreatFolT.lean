/-
  A helper of ours: no claim of its own. Layer 13 (fold): answers, clock, changes and events of messages, by the code.
-/
import Derived.Test.YtiknkcadbaeknaaGreatFolXE
import Derived.Test.YtiknkcadbaeknaaGreatStepV
import Derived.Test.YtiknkcadbaeknaaGreatFolPA
import Derived.Test.YtiknkcadbaeknaaGreatBagB
set_option linter.unusedVariables false
set_option linter.unusedSimpArgs false
namespace Go.Proofs.YtiknkcadbaeknaaGreat
open Go.RowKit
attribute [local go_sem] GW.cell GW.frozen In.eq_true In.le_true In.ne In.ne' In.ne_add In.ne_add' In.lt_add Upto.le_true Upto.le_add Upto.lt_add
abbrev evs (L : List (Value × Ex)) : List Value := L.flatMap fun p => evO p.1 p.2
theorem evs_get : ∀ (L : List (Value × Ex)) (i : Nat) (p : Value × Ex), L[i]? = some p → ∀ j u, (evO p.1 p.2)[j]? = some u → (evs L)[i * 4 + j]? = some u
  | q :: r, 0, p, h, j, u, hu => by
    simp at h; subst h
    have hj : j < (evO q.1 q.2).length := (List.getElem?_eq_some_iff.1 hu).1
    rw [show evs (q :: r) = evO q.1 q.2 ++ evs r by simp [evs], List.getElem?_append_left (by omega), show 0 * 4 + j = j by omega]; exact hu
  | q :: r, i + 1, p, h, j, u, hu => by
    have := evs_get r i p (by simpa using h) j u hu
    rw [show evs (q :: r) = evO q.1 q.2 ++ evs r by simp [evs], show (i + 1) * 4 + j = (evO q.1 q.2).length + (i * 4 + j) by simp [evO]; omega, List.getElem?_append_right (by omega), Nat.add_sub_cancel_left]
    exact this
theorem evs_set (n1 n2 : Int) : ∀ (L : List (Value × Ex)) (i : Nat) (p : Value × Ex), L[i]? = some p → evs (L.set i (p.1, (p.2.1, (n1, n2)))) = ((evs L).set (i * 4 + 2) (.int .i64 n1)).set (i * 4 + 3) (.int .i64 n2)
  | q :: r, 0, p, h => by
    simp at h; subst h
    simp [evs, evO]
  | q :: r, i + 1, p, h => by
    have ih := evs_set n1 n2 r i p (by simpa using h)
    have e : evs (q :: r) = evO q.1 q.2 ++ evs r := by simp [evs]
    have hl : (evO q.1 q.2).length = 4 := rfl
    rw [List.set_cons_succ, show evs (q :: r.set i (p.1, (p.2.1, (n1, n2)))) = evO q.1 q.2 ++ evs (r.set i (p.1, (p.2.1, (n1, n2)))) by simp [evs], ih, e]
    rw [List.set_append_right _ _ (by rw [hl]; omega), List.set_append_right _ _ (by rw [hl]; omega), hl]
    congr 2
    · congr 1; omega
    · omega
set_option maxHeartbeats 8000000 in
set_option maxRecDepth 100000 in
theorem evtPut2_c (wA : World) (B s mb : Nat) (L : List (Value × Ex)) (k i f t : Int) (hk : k ≠ 1) (u v : Value) (VA : Option Addr) (vl vc : Nat) (hv : v = .slice VA vl vc) (cs : Nat) (cr : List Vl) (o1 o2 n1 n2 : Int) (hu : Rw wA [] u cr) (h0 : decide (0 < cs) = true) (p : Value × Ex) (hp : L[cs - 1]? = some p) (e : Int) (hl : L.length ≤ 100000) (w : World) (h : BxE w wA.heap.size B L) (hX : Ext wA w) (hst : StOk w s mb) :
    Calls Tryz.prog 55 #[mg k i f t v, chV u (cs, cr, (o1, o2), (n1, n2)), .int .i64 e, .pointer (some ⟨B, 0, none⟩)] w fun r w' => r = .returned (.tuple #[]) ∧ (∃ L', BxE w' wA.heap.size B L' ∧ L'.map Prod.snd = (L.map Prod.snd).set (cs - 1) (p.2.1, (n1, n2))) ∧ Ext wA w' ∧ w'.heap[s]? = w.heap[s]? ∧ w'.heap[mb]? = w.heap[mb]? := by
  obtain ⟨UA, uc, eu⟩ := rw_val hu
  subst hv; subst eu
  have hic := hide (fun w => isChange_c UA cr.length uc (cs, cr, (o1, o2), (n1, n2)) w)
  simp only at hic
  rw [h0] at hic
  have hk1 : (k == 1) = false := by simp [hk]
  have hcs : 1 ≤ cs := of_decide_eq_true h0
  obtain ⟨j, hjc⟩ : ∃ j, j = cs - 1 := ⟨_, rfl⟩
  rw [← hjc] at hp ⊢
  have hsub : (cs : Int) - 1 = (j : Int) := by omega
  have hj : j < L.length := (List.getElem?_eq_some_iff.1 hp).1
  obtain ⟨sv, hO, ho, hB⟩ := h
  obtain ⟨g, cap, cur, rfl, hgb, hg, r⟩ : ∃ g cap cur, sv = .slice (some ⟨g, 0, none⟩) L.length cap ∧ wA.heap.size ≤ g ∧ w.heap[g]? = some (.cells cur 48) ∧ L.length ≤ cap := by
    rcases ho.1.2 with ⟨-, h2⟩ | ⟨g, cap, cur, e1, hb, hg, hn, -⟩
    · omega
    · exact ⟨g, cap, cur, e1, hb, hg, hn⟩
  have c2 := ho.1.cells (g := g) rfl (j * 4 + 2) _ (evs_get L j p hp 2 _ rfl)
  have c3 := ho.1.cells (g := g) rfl (j * 4 + 3) _ (evs_get L j p hp 3 _ rfl)
  rw [add_plain, Nat.zero_add] at c2 c3
  have z2 := frozen_of_row w g (j * 4 + 2) cur 48 hg
  have z3 := frozen_of_row w g (j * 4 + 3) cur 48 hg
  have hgl := block_lt_of_cell c2
  haveI : In g w := ⟨hgl⟩
  have hlt := hO.lt
  have q0 := hO.cell 0 rfl
  haveI : In B w := ⟨hlt⟩
  have hne1 := hst.ne_ob hO (by decide)
  have hne2 := hst.ne_own ho.1 (by decide)
  have hnB := hO.not_own ho.1 (by decide)
  have hjI : ((j : Int)) < L.length := by omega
  replace hO := hide hO
  replace ho := hide ho
  replace h0 := hide h0
  replace hg := hide hg
  replace hjc := hide hjc
  replace hcs := hide hcs
  go_enter Tryz.func55, Tryz.ntmps55
  go_wp2_with (go_at_call 53; first | ((with_reducible refine seq_gw' (hic.out _) ?_); intro g1) | ((with_reducible refine seq_gw (hic.out _) ?_); intro g1))
  go_end0
  have hXg := (Gn.ext (w := w) : Ext w g1.val)
  have hF : Fr [g] w ((g1.val.setCell ⟨g, j * 4 + 2, none⟩ (.int .i64 n1)).setCell ⟨g, j * 4 + 3, none⟩ (.int .i64 n2)) := ((Fr.of_ext (S := [g]) hXg).setCell ⟨g, j * 4 + 2, none⟩ (.int .i64 n1) (.inl (by simp))).setCell ⟨g, j * 4 + 3, none⟩ (.int .i64 n2) (.inl (by simp))
  have hob : g ∈ ob (.slice (some ⟨g, 0, none⟩) L.length cap) := by simp [ob, Value.ownBlock]
  have hP := put_done hF hX (by intro b hb; rw [List.mem_singleton.1 hb]; exact ⟨hgb, hne2 g hob⟩) hst
  have hNv := own_nt ho.out.1 (e := 93) (by decide) g hob
  refine ⟨rfl, ⟨L.set j (p.1, (p.2.1, (n1, n2))), ⟨.slice (some ⟨g, 0, none⟩) L.length cap, hO.out.fr hF (by simp only [List.mem_singleton]; intro e; subst e; exact hnB (by simp [Value.ownBlock])), ⟨?_, fun q hq => ?_⟩, hB⟩, by rw [List.map_set]⟩, hP⟩
  · have h1 := (World.ownsRow.stored (own_ext ho.out.1 hXg) (j * 4 + 2) (.int .i64 n1)).1
    have h2 := (World.ownsRow.stored h1 (j * 4 + 3) (.int .i64 n2)).1
    rw [List.length_set]
    have e := evs_set n1 n2 L j p hp
    unfold evs at e
    rw [e]
    exact h2
  · rcases List.mem_or_eq_of_mem_set hq with hq | rfl
    · exact (ho.out.2 q hq).stay hF (by intro b hb; rw [List.mem_singleton.1 hb]; exact hNv)
    · exact (RwO.stay (ho.out.2 p (List.mem_of_getElem? hp)) hF (by intro b hb; rw [List.mem_singleton.1 hb]; exact hNv) : RwO _ p.1 p.2.1.2)
end Go.Proofs.YtiknkcadbaeknaaGreat
set_option linter.unusedVariables false
set_option linter.unusedSimpArgs false
namespace Go.Proofs.YtiknkcadbaeknaaGreat
open Go.RowKit
attribute [local go_sem] GW.cell GW.frozen In.eq_true In.le_true In.ne In.ne' In.ne_add In.ne_add' In.lt_add Upto.le_true Upto.le_add Upto.lt_add
abbrev Le := Value × Ex
def goneX (x : Ex) : Bool := decide (x.2.1 = 0 ∧ x.2.2 = 0)
def filtE (L : List Le) : List Le := L.filter fun p => !goneX p.2
def idxE : Nat → List Le → Int
  | _, [] => -1
  | k, p :: r => if goneX p.2 = true then (k : Int) else idxE (k + 1) r
theorem filtE_next {l : List Le} {k : Nat} {x : Le} (hx : l[k]? = some x) : filtE (l.take (k + 1)) = if goneX x.2 = true then filtE (l.take k) else filtE (l.take k) ++ [x] := by
  unfold filtE
  rw [take_one hx, List.filter_append]
  cases h : goneX x.2 <;> simp [h]
theorem idxE_none : ∀ (l : List Le) (k : Nat), idxE k l = -1 → filtE l = l
  | [], _, _ => rfl
  | x :: r, k, h => by
    unfold idxE at h
    cases hx : goneX x.2
    · rw [hx] at h
      have := idxE_none r (k + 1) (by simpa using h)
      unfold filtE at this ⊢
      rw [List.filter_cons, hx]
      simp only [Bool.not_false, if_true]
      rw [this]
    · rw [hx, if_pos rfl] at h; omega
theorem idxE_some : ∀ (l : List Le) (k : Nat), idxE k l ≠ -1 → ∃ i, idxE k l = ((k + i : Nat) : Int) ∧ i < l.length ∧ filtE (l.take i) = l.take i ∧ ∃ x, l[i]? = some x ∧ goneX x.2 = true
  | [], _, h => absurd rfl h
  | x :: r, k, h => by
    unfold idxE at h ⊢
    cases hx : goneX x.2
    · rw [hx] at h
      simp only [Bool.false_eq_true, if_false] at h ⊢
      obtain ⟨i, h1, h2, h3, h4⟩ := idxE_some r (k + 1) h
      refine ⟨i + 1, by rw [h1]; congr 1; omega, by simp; omega, ?_, by simpa using h4⟩
      rw [List.take_succ_cons]
      unfold filtE at h3 ⊢
      rw [List.filter_cons, hx]
      simp only [Bool.not_false, if_true]
      rw [h3]
    · exact ⟨0, by simp, by simp, rfl, x, rfl, hx⟩
theorem edrop_cons {l : List Le} {k : Nat} {x : Le} (h : l[k]? = some x) : l.drop k = x :: l.drop (k + 1) := by
  obtain ⟨h1, h2⟩ := List.getElem?_eq_some_iff.1 h
  rw [List.drop_eq_getElem_cons h1, h2]
theorem evs_length (L : List Le) : (evs L).length = L.length * 4 := by
  induction L with
  | nil => rfl
  | cons p r ih => simp only [evs, evO, List.flatMap_cons, List.length_append, List.length_cons, List.length_nil] at ih ⊢; omega
theorem evs_take (L : List Le) (j : Nat) : (evs L).take (j * 4) = evs (L.take j) := by
  induction L generalizing j with
  | nil => simp [evs]
  | cons p r ih =>
    cases j with
    | zero => simp [evs]
    | succ j =>
      have e : evs (p :: r) = evO p.1 p.2 ++ evs r := by simp [evs]
      have hl : (evO p.1 p.2).length = 4 := rfl
      rw [e, List.take_succ_cons, show evs (p :: r.take j) = evO p.1 p.2 ++ evs (r.take j) by simp [evs], ← ih j, List.take_append, hl, List.take_of_length_le (by rw [hl]; omega)]
      congr 2
      omega
theorem evs_put (x : Le) : ∀ (L : List Le) (i : Nat), i < L.length → evs (L.set i x) = ((((evs L).set (i * 4) (.int .i64 x.2.1.1)).set (i * 4 + 1) x.1).set (i * 4 + 2) (.int .i64 x.2.2.1)).set (i * 4 + 3) (.int .i64 x.2.2.2)
  | q :: r, 0, h => by simp [evs, evO]
  | q :: r, i + 1, h => by
    have ih := evs_put x r i (by simpa using h)
    have e : evs (q :: r) = evO q.1 q.2 ++ evs r := by simp [evs]
    have hl : (evO q.1 q.2).length = 4 := rfl
    rw [List.set_cons_succ, show evs (q :: r.set i x) = evO q.1 q.2 ++ evs (r.set i x) by simp [evs], ih, e]
    rw [List.set_append_right _ _ (by rw [hl]; omega), List.set_append_right _ _ (by rw [hl]; omega), List.set_append_right _ _ (by rw [hl]; omega), List.set_append_right _ _ (by rw [hl]; omega), hl]
    rw [show (i + 1) * 4 - 4 = i * 4 by omega, show (i + 1) * 4 + 1 - 4 = i * 4 + 1 by omega, show (i + 1) * 4 + 2 - 4 = i * 4 + 2 by omega, show (i + 1) * 4 + 3 - 4 = i * 4 + 3 by omega]
set_option maxHeartbeats 1000000 in
theorem foldNone_c (a b : Int) (w : World) : Calls Tryz.prog 105 #[.agg #[.int .i64 a, .int .i64 b]] w fun e w' => e = .returned (.bool (decide (a = 0 ∧ b = 0))) ∧ Ext w w' := by
  by_cases ha : a = 0
  · subst ha
    by_cases hb : b = 0
    · subst hb
      go_enter Tryz.func105, Tryz.ntmps105
      go_wp2_with fail
      go_returns
      exact ⟨by simp, (Ext.refl w).alloc _⟩
    · have b0 : (b == 0) = false := by simp [hb]
      have b1 : decide (b = 0) = false := by simp [hb]
      go_enter Tryz.func105, Tryz.ntmps105
      go_wp2_with fail
      go_returns
      exact ⟨by simp [hb], (Ext.refl w).alloc _⟩
  · have a0 : (a == 0) = false := by simp [ha]
    have a1 : decide (a = 0) = false := by simp [ha]
    go_enter Tryz.func105, Tryz.ntmps105
    go_wp2_with fail
    go_returns
    exact ⟨by simp [ha], (Ext.refl w).alloc _⟩
set_option maxHeartbeats 1000000 in
theorem isCancelled_c (UA : Option Addr) (ul uc : Nat) (x : Ex) (w : World) : Calls Tryz.prog 57 #[evV (.slice UA ul uc) x] w fun e w' => e = .returned (.bool (goneX x)) ∧ Ext w w' := by
  obtain ⟨⟨xi, xr⟩, x1, x2⟩ := x
  have hn := hide (fun w => foldNone_c x1 x2 w)
  obtain ⟨R, hR⟩ : ∃ R, R = goneX ((xi, xr), (x1, x2)) := ⟨_, rfl⟩
  rw [← hR]
  unfold goneX at hR
  simp only at hR
  rw [← hR] at hn
  replace hR := hide hR
  go_enter Tryz.func57, Tryz.ntmps57
  go_wp2_with (go_at_call 105; first | ((with_reducible refine seq_gw' (hn.out _) ?_); intro g) | ((with_reducible refine seq_gw (hn.out _) ?_); intro g))
  go_returns
  exact ⟨rfl, ((Ext.refl w).alloc _).trans g.grown⟩
/-- An event's cells. -/
theorem own_evat {w : World} {base : Nat} {v : Value} {L : List Le} (h : OwnEx w base v L) {k : Nat} {p : Le} (hp : L[k]? = some p) : ∃ g cap PA pc, v = .slice (some ⟨g, 0, none⟩) L.length cap ∧ base ≤ g ∧ g < w.heap.size ∧ p.1 = .slice PA p.2.1.2.length pc ∧ w.cell? ⟨g, k * 4, none⟩ = some (.int .i64 p.2.1.1) ∧ w.cell? ⟨g, k * 4 + 1, none⟩ = some p.1 ∧ w.cell? ⟨g, k * 4 + 2, none⟩ = some (.int .i64 p.2.2.1) ∧ w.cell? ⟨g, k * 4 + 3, none⟩ = some (.int .i64 p.2.2.2) := by
  have hk : k < L.length := (List.getElem?_eq_some_iff.1 hp).1
  obtain ⟨PA, pc, e⟩ := rwo_val (h.2 p (List.mem_of_getElem? hp))
  rcases h.1.2 with ⟨-, h2⟩ | ⟨g, cap, cur, rfl, hb, hg, -⟩
  · omega
  · have c0 := h.1.cells (g := g) rfl (k * 4 + 0) _ (evs_get L k p hp 0 _ rfl)
    have c1 := h.1.cells (g := g) rfl (k * 4 + 1) _ (evs_get L k p hp 1 _ rfl)
    have c2 := h.1.cells (g := g) rfl (k * 4 + 2) _ (evs_get L k p hp 2 _ rfl)
    have c3 := h.1.cells (g := g) rfl (k * 4 + 3) _ (evs_get L k p hp 3 _ rfl)
    rw [add_plain, Nat.zero_add] at c0 c1 c2 c3
    exact ⟨g, cap, PA, pc, rfl, hb, block_lt_of_cell c0, e, c0, c1, c2, c3⟩
set_option maxHeartbeats 4000000 in
set_option maxRecDepth 100000 in
theorem evtIndex_c (L : List Le) (base : Nat) (v : Value) (w : World) (h : OwnEx w base v L) (hn : L.length ≤ 200000) : Calls Tryz.prog 104 #[v, .func (.func 57) #[] #[]] w fun e w' => e = .returned (.int .i64 (idxE 0 L)) ∧ Ext w w' := by
  obtain ⟨A, cap, rfl⟩ := h.form
  replace h := hide h
  obtain ⟨R, hR⟩ : ∃ R, R = idxE 0 L := ⟨_, rfl⟩
  rw [← hR]
  replace hR := hide hR
  go_enter Tryz.func104, Tryz.ntmps104
  go_wp2_with fail
  go_loopg [8] L.length (fun gh i wr => ∃ (k : Nat), i = .int .i64 k ∧ k + gh = L.length ∧ Hid (R = idxE k (L.drop k)) ∧ Ext w wr)
  case atStart => exact ⟨0, rfl, by omega, by simpa using hR, Ext.refl w⟩
  case round =>
    obtain ⟨k, rfl, hk, hRk, hX⟩ := hrel
    clear hR
    by_cases hlt : k < L.length
    · obtain ⟨x, hx⟩ : ∃ x, L[k]? = some x := ⟨_, List.getElem?_eq_getElem hlt⟩
      obtain ⟨g, cap', PA, pc, e1, -, hgl, e2, c0, c1, c2, c3⟩ := own_evat (h.out.ext hX) hx
      cases e1
      haveI : In g wr := ⟨hgl⟩
      have hin := hide (fun w => isCancelled_c PA x.2.1.2.length pc x.2 w)
      have hR2 := hRk.out
      rw [edrop_cons hx] at hR2
      simp only [idxE] at hR2
      replace hR2 := hide hR2
      obtain ⟨xv, ⟨xi, xr⟩, x1, x2⟩ := x
      simp only at e2 c0 c1 c2 c3 hin
      subst e2
      have hltI : (k : Int) < L.length := by omega
      clear hx hRk
      cases hmx : goneX ((xi, xr), (x1, x2))
      · simp only [hmx] at hin hR2
        replace hmx := hide hmx
        go_wp2_with (go_at_call 57; first | ((with_reducible refine seq_gw (hin.out _) ?_); intro g2) | ((with_reducible refine seq_gw' (hin.out _) ?_); intro g2))
        go_roundg (L.length - (k + 1))
        case measure => omega
        case rel => exact ⟨k + 1, by go_num, by omega, (by show _ = _; simpa using hR2.out), hX.trans g2.grown⟩
      · simp only [hmx] at hin hR2
        replace hmx := hide hmx
        go_wp2_with (go_at_call 57; first | ((with_reducible refine seq_gw (hin.out _) ?_); intro g2) | ((with_reducible refine seq_gw' (hin.out _) ?_); intro g2))
        go_returns
        exact ⟨by first | (rw [hR2.out]; simp; done) | (rw [hR2.out]; rfl), hX.trans g2.grown⟩
    · have hk' : k = L.length := by omega
      have hge : (L.length : Int) ≤ k := by omega
      have hRn : Hid (R = -1) := by show _ = _; rw [hRk.out, hk', List.drop_length]; rfl
      clear hRk h
      go_wp2_with fail
      go_returns
      exact ⟨by rw [hRn.out]; rfl, hX⟩
end Go.Proofs.YtiknkcadbaeknaaGreat
set_option linter.unusedVariables false
set_option linter.unusedSimpArgs false
namespace Go.Proofs.YtiknkcadbaeknaaGreat
open Go.RowKit
attribute [local go_sem] GW.cell GW.frozen In.eq_true In.le_true In.ne In.ne' In.ne_add In.ne_add' In.lt_add Upto.le_true Upto.le_add Upto.lt_add
theorem fr_setCells {W : World} {g : Nat} : ∀ (vs : List Value) (o : Nat) (w : World), Fr [g] W w → Fr [g] W (w.setCells g o vs)
  | [], _, _, h => h
  | v :: r, o, w, h => fr_setCells r (o + 1) _ (h.setCell ⟨g, o, none⟩ v (.inl (by simp)))
set_option maxHeartbeats 8000000 in
set_option maxRecDepth 100000 in
theorem evtDel_c (W0 : World) (l : List Le) (v : Value) (w : World) (h : OwnEx w W0.heap.size v l) (hX0 : Ext W0 w) (hn : l.length ≤ 200000) : Calls Tryz.prog 56 #[v, .func (.func 57) #[] #[]] w fun e w' =>
    ∃ v', e = .returned v' ∧ OwnEx w' W0.heap.size v' (filtE l) ∧ Ext W0 w' := by
  have hidx := hide (evtIndex_c l _ v w h hn)
  by_cases hi : idxE 0 l = -1
  · rw [hi] at hidx
    have hf := hide (idxE_none l 0 hi)
    obtain ⟨A, cap, rfl⟩ := h.form
    replace h := hide h
    clear hi
    go_enter Tryz.func56, Tryz.ntmps56
    go_wp2_with (go_at_call 104; (with_reducible refine seq_gw hidx.out ?_); intro g)
    go_returns
    rw [hf.out]
    exact ⟨_, rfl, h.out.ext g.grown, hX0.trans g.grown⟩
  · obtain ⟨i0, h1, h2, h3, x0, h4, h5⟩ := idxE_some l 0 hi
    rw [h1, Nat.zero_add] at hidx
    obtain ⟨g, cap, PA0, pc0, rfl, hgB, hgl, -⟩ := own_evat h h4
    have hob : g ∈ ob (.slice (some ⟨g, 0, none⟩) l.length cap) := by simp [ob, Value.ownBlock]
    have hNv := hide (own_nt h.1 (e := 93) (by decide) g hob)
    have hrow := hide h.2
    have hform := hide (fun p (hp : p ∈ l) => rwo_val (h.2 p hp))
    have hstart : Hid (filtE (l.take (i0 + 1)) = l.take i0) := by show _ = _; rw [filtE_next h4, if_pos h5, h3]
    have hnI : (l.length : Int) ≤ 200000 := by omega
    have hi0b : ((i0 : Int) == -1) = false := by rw [beq_eq_false_iff_ne]; omega
    obtain ⟨R, hR⟩ : ∃ R, R = filtE l := ⟨_, rfl⟩
    rw [← hR]
    have hcap : l.length ≤ cap ∧ cap ≤ 9223372036854775807 := by
      rcases h.1.2 with ⟨h', _⟩ | ⟨g', cap', cur, h', hb, hg, hnc, hcm, hcs, htake⟩
      · simp at h'
      · simp only [Value.slice.injEq] at h'
        obtain ⟨_, _, rfl⟩ := h'
        unfold maxLen at hcm
        exact ⟨hnc, by omega⟩
    obtain ⟨hc1, hc2⟩ := hcap
    have h0 := hide h.1
    replace hR := hide hR
    clear hi h1 h3 h4 h5 h
    obtain ⟨n, hln⟩ : ∃ n, n = l.length := ⟨_, rfl⟩
    have hlnh := hide hln
    rw [← hln] at hidx h2 hnI hc1 ⊢
    clear hln hn hob
    go_enter Tryz.func56, Tryz.ntmps56
    go_wp2_with (go_at_call 104; (with_reducible refine seq_gw hidx.out ?_); intro q)
    have hstartO : Hid (q.val.ownsRow W0.heap.size 48 4 (.slice (some ⟨g, 0, none⟩) n cap) n (evs l)) := by have := own_ext h0.out q.grown; rw [← hlnh.out] at this; exact this
    have hFq := hide (Fr.of_ext (S := [g]) q.grown)
    go_loopg [5, 6] (n - (i0 + 1)) (fun gh u i wr => ∃ (j k : Nat) (cur : List Le), u = .int .i64 j ∧ i = .int .i64 k ∧ k + gh = n ∧ j < k ∧ Hid (cur.length = n) ∧ Hid (wr.ownsRow W0.heap.size 48 4 (.slice (some ⟨g, 0, none⟩) n cap) n (evs cur)) ∧ Hid (cur.take j = filtE (l.take k)) ∧ Hid (cur.drop k = l.drop k) ∧ Hid (Fr [g] w wr) ∧ Ext W0 wr)
    case atStart => exact ⟨i0, i0 + 1, l, rfl, by go_num, by omega, by omega, hlnh.out.symm, hstartO, hstart.out.symm, rfl, hFq, hX0.trans q.grown⟩
    case round =>
      clear hidx hstartO hFq
      obtain ⟨j, k, cur, rfl, rfl, hk, hjk, hcl, ho, htk, hdr, hFr, hX⟩ := hrel
      have hgw : g < wr.heap.size := (World.ownsRow.lt ho.out g rfl).2
      haveI : In g wr := ⟨hgw⟩
      by_cases hlt : k < n
      · obtain ⟨x, hx⟩ : ∃ x, l[k]? = some x := ⟨_, List.getElem?_eq_getElem (by have := hlnh.out; omega)⟩
        have hcx : cur[k]? = some x := by
          have e1 : (cur.drop k)[0]? = (l.drop k)[0]? := by rw [hdr.out]
          simpa [hx] using e1
        obtain ⟨PA, pc, epv⟩ := hform.out x (List.mem_of_getElem? hx)
        have y0 := (World.ownsRow.cellAt ho.out (k * 4 + 0) (by omega)).trans (evs_get cur k x hcx 0 _ rfl)
        have y1 := (World.ownsRow.cellAt ho.out (k * 4 + 1) (by omega)).trans (evs_get cur k x hcx 1 _ rfl)
        have y2 := (World.ownsRow.cellAt ho.out (k * 4 + 2) (by omega)).trans (evs_get cur k x hcx 2 _ rfl)
        have y3 := (World.ownsRow.cellAt ho.out (k * 4 + 3) (by omega)).trans (evs_get cur k x hcx 3 _ rfl)
        rw [Nat.add_zero] at y0
        have some_at : ∀ m, m < n * 4 → ∃ u, wr.cell? ⟨g, m, none⟩ = some u := fun m hm => ⟨_, (World.ownsRow.cellAt ho.out m hm).trans (List.getElem?_eq_getElem (by rw [evs_length, hcl.out]; exact hm))⟩
        obtain ⟨u0, s0⟩ := some_at (j * 4) (by omega)
        obtain ⟨u1, s1⟩ := some_at (j * 4 + 1) (by omega)
        obtain ⟨u2, s2⟩ := some_at (j * 4 + 2) (by omega)
        obtain ⟨u3, s3⟩ := some_at (j * 4 + 3) (by omega)
        have f0 := World.ownsRow.frozenAt ho.out (j * 4)
        have f1 := World.ownsRow.frozenAt ho.out (j * 4 + 1)
        have f2 := World.ownsRow.frozenAt ho.out (j * 4 + 2)
        have f3 := World.ownsRow.frozenAt ho.out (j * 4 + 3)
        have hdel := hide (fun w => isCancelled_c PA x.2.1.2.length pc x.2 w)
        have hft := filtE_next hx
        have hdr' : Hid (cur.drop (k + 1) = l.drop (k + 1)) := by
          show _ = _
          have := hdr.out
          rw [edrop_cons hx, edrop_cons hcx] at this
          exact (List.cons.inj this).2
        obtain ⟨xv, ⟨xi, xr⟩, x1, x2⟩ := x
        simp only at y0 y1 y2 y3 epv hdel
        subst epv
        have hjI : (j : Int) < n := by omega
        have hkI : (k : Int) < n := by omega
        clear some_at hx
        cases hd : goneX ((xi, xr), (x1, x2))
        · simp only [hd] at hdel hft
          rw [if_neg (by decide)] at hft
          replace hft := hide hft
          replace hd := hide hd
          clear hcx
          go_wp2_with (go_at_call 57; first | ((with_reducible refine seq_gw (hdel.out _) ?_); intro q7) | ((with_reducible refine seq_gw' (hdel.out _) ?_); intro q7))
          go_roundg (n - (k + 1))
          case measure => omega
          case rel =>
            have hX7 := ((Ext.refl wr).alloc (.cells #[.int .i64 xi, .slice PA xr.length pc, .int .i64 x1, .int .i64 x2] 48)).trans q7.grown
            have o1 := (World.ownsRow.stored (own_ext ho.out hX7) (j * 4) (.int .i64 xi)).1
            have o2 := (World.ownsRow.stored o1 (j * 4 + 1) (.slice PA xr.length pc)).1
            have o3 := (World.ownsRow.stored o2 (j * 4 + 2) (.int .i64 x1)).1
            have o4 := (World.ownsRow.stored o3 (j * 4 + 3) (.int .i64 x2)).1
            rw [← evs_put (.slice PA xr.length pc, ((xi, xr), (x1, x2))) cur j (by rw [hcl.out]; omega)] at o4
            refine ⟨j + 1, k + 1, cur.set j (.slice PA xr.length pc, ((xi, xr), (x1, x2))), by go_num, by go_num, by omega, by omega, by rw [List.length_set]; exact hcl.out, o4, ?_, ?_, (((((hFr.out.trans (Fr.of_ext hX7)).setCell _ _ (.inl (by simp))).setCell _ _ (.inl (by simp))).setCell _ _ (.inl (by simp))).setCell _ _ (.inl (by simp))), ((((hX.trans hX7).setCell hgB _).setCell hgB _).setCell hgB _).setCell hgB _⟩
            · show _ = _
              rw [hft.out, ← htk.out, List.take_add_one, List.take_set_of_le (Nat.le_refl _)]
              simp [show j < cur.length by rw [hcl.out]; omega]
            · show _ = _
              rw [List.drop_set_of_lt (by omega)]
              exact hdr'.out
        · simp only [hd] at hdel hft
          rw [if_pos trivial] at hft
          replace hft := hide hft
          replace hd := hide hd
          clear hcx s0 s1 s2 s3 f0 f1 f2 f3
          go_wp2_with (go_at_call 57; first | ((with_reducible refine seq_gw (hdel.out _) ?_); intro q7) | ((with_reducible refine seq_gw' (hdel.out _) ?_); intro q7))
          go_roundg (n - (k + 1))
          case measure => omega
          case rel =>
            have hX7 := ((Ext.refl wr).alloc (.cells #[.int .i64 xi, .slice PA xr.length pc, .int .i64 x1, .int .i64 x2] 48)).trans q7.grown
            exact ⟨j, k + 1, cur, rfl, by go_num, by omega, by omega, hcl, own_ext ho.out hX7, by show _ = _; rw [hft.out]; exact htk.out, hdr', hFr.out.trans (Fr.of_ext hX7), hX.trans hX7⟩
      · have hk' : k = n := by omega
        have hge : (n : Int) ≤ k := by omega
        have hR2 : Hid (R = cur.take j) := by show _ = _; have := htk.out; rw [hk', hlnh.out, List.take_length] at this; rw [hR.out]; exact this.symm
        have hjn : j < n := by omega
        have hjI : (j : Int) ≤ n := by omega
        have hcl2 : ∀ ty, (Builtin.clear_ #[31] ty #[.slice (some ⟨g, j * 4, none⟩) (n - j) (cap - j)]).run Tryz.prog wr = .ok (.tuple #[]) (wr.setCells g (j * 4) (Builtin.zeroCells (Value.agg #[.int .i64 0, .slice none 0 0, .int .i64 0, .int .i64 0]).cells (n - j)).toList) := fun ty => by
          have hzl : (Builtin.zeroCells (Value.agg #[.int .i64 0, .slice none 0 0, .int .i64 0, .int .i64 0]).cells (n - j)).toList.length = (n - j) * 4 := by rw [Array.length_toList, size_zeroCells]; rfl
          refine run_clear_cells wr _ _ ty _ _ Tryz.underlying31 (fun _ => by kernel_rfl) g (j * 4) (n - j) (cap - j) (by omega) rfl ?_ (fun i hi => ?_) (fun i hi => ?_)
          · intro u hu
            have hu' := Array.mem_toList_iff.1 hu
            have hall : ∀ u ∈ Builtin.zeroCells (Value.agg #[.int .i64 0, .slice none 0 0, .int .i64 0, .int .i64 0]).cells (n - j), u = .int .i64 0 ∨ u = .slice none 0 0 := by
              intro u hu
              simp only [Builtin.zeroCells] at hu
              simp at hu
              obtain ⟨i, _, rfl⟩ := hu
              have : i % 4 = 0 ∨ i % 4 = 1 ∨ i % 4 = 2 ∨ i % 4 = 3 := by omega
              rcases this with e | e | e | e <;> simp [Value.cells, e]
            rcases hall u hu' with rfl | rfl <;> rfl
          · rw [hzl] at hi
            rw [World.ownsRow.cellAt ho.out (j * 4 + i) (by omega), List.getElem?_eq_getElem (by rw [evs_length, hcl.out]; omega)]; rfl
          · exact World.ownsRow.frozenAt ho.out _
        have hown : Hid ((wr.setCells g (j * 4) (Builtin.zeroCells (Value.agg #[.int .i64 0, .slice none 0 0, .int .i64 0, .int .i64 0]).cells (n - j)).toList).ownsRow W0.heap.size 48 4 (.slice (some ⟨g, 0, none⟩) j cap) j (evs (cur.take j))) := by
          have := own_take ho.out (i := j) (by omega)
          rw [evs_take] at this
          exact own_setCells (w0 := w) _ _ _ this (Nat.le_refl _)
        have hxx : Hid (Ext W0 (wr.setCells g (j * 4) (Builtin.zeroCells (Value.agg #[.int .i64 0, .slice none 0 0, .int .i64 0, .int .i64 0]).cells (n - j)).toList)) := ext_setCells hgB _ _ _ hX
        have hfz : Hid (Fr [g] w (wr.setCells g (j * 4) (Builtin.zeroCells (Value.agg #[.int .i64 0, .slice none 0 0, .int .i64 0, .int .i64 0]).cells (n - j)).toList)) := fr_setCells _ _ _ hFr.out
        generalize wr.setCells g (j * 4) (Builtin.zeroCells (Value.agg #[.int .i64 0, .slice none 0 0, .int .i64 0, .int .i64 0]).cells (n - j)).toList = wz at *
        have hjl : Hid ((cur.take j).length = j) := by show _ = _; rw [List.length_take, hcl.out]; omega
        have hsub : Hid (∀ p ∈ cur.take j, p ∈ l) := fun p hp => by
          rw [htk.out] at hp
          exact List.mem_of_mem_take (List.mem_filter.1 hp).1
        have hjc : j < cap := by omega
        have hjcI : ¬ j = cap := by omega
        replace hk' := hide hk'
        clear hcl htk hdr hR ho
        go_wp2_with fail
        go_returns
        rw [hR2.out]
        refine ⟨_, rfl, ⟨?_, fun p hp => ?_⟩, hxx.out⟩
        · rw [hjl.out]
          exact hown.out
        · exact (hrow.out p (hsub.out p hp)).stay hfz.out (by intro b hb; rw [List.mem_singleton.1 hb]; exact hNv.out)
end Go.Proofs.YtiknkcadbaeknaaGreat
set_option linter.unusedVariables false
set_option linter.unusedSimpArgs false
namespace Go.Proofs.YtiknkcadbaeknaaGreat
open Go.RowKit
attribute [local go_sem] GW.cell GW.frozen In.eq_true In.le_true In.ne In.ne' In.ne_add In.ne_add' In.lt_add Upto.le_true Upto.le_add Upto.lt_add
theorem run_inv : ∀ (l : List PM) (s : StD), (∃ T, InvF T s) → ∃ T, InvF T (runS s l)
  | [], _, h => h
  | m :: r, s, ⟨T, h⟩ => run_inv r (stp s m) ⟨_, h.step m (.slice none 0 0)⟩
theorem runS_inv (l : List PM) : ∃ T, InvF T (runS (0, []) l) := run_inv l _ ⟨[], InvF.nil⟩
theorem mayR8 {r : List Vl} (h : mayR r = true) : r.length ≤ 8 := (mayR_iff.1 h).1
theorem chg_r8 {T : List Ke} {S : StD} (hI : InvF T S) (m : PM) : (chg S m).2.1.length ≤ 8 := by
  unfold chg
  split
  · rename_i h0
    have hz := h0
    rw [hI.chk] at hz
    obtain ⟨z1, -⟩ := chkO_zero hz
    rw [hI.change m h0]
    by_cases h3 : m.1.1 = 3
    · rw [if_pos h3]; exact Nat.zero_le _
    · rw [if_neg h3]
      by_cases h1 : m.1.1 = 1
      · rw [if_pos h1]
        unfold mkM at z1
        rw [h1] at z1
        exact mayR8 (mchk_one z1).1
      · rw [if_neg h1]
        obtain ⟨h1', h2'⟩ := hI.free m.1.2.1
        cases hp : atK (freeK T S.1 m.1.2.1) m.1.2.1 with
        | none => exact Nat.zero_le _
        | some p =>
          obtain ⟨g1, g2⟩ := h1'.known p (atK_some hp).1 (h2' p hp)
          exact mayR8 (hI.evs _ (List.mem_of_getElem? g2)).2.2.2.1
  · exact Nat.zero_le _
theorem pms_at {L : List Vm} {k : Nat} {p : Vm} (h : L[k]? = some p) : (pms L)[k]? = some p.2 := by unfold pms; rw [List.getElem?_map, h]; rfl
theorem pms_len (L : List Vm) (k : Nat) : ((pms L).take k).length ≤ L.length := by rw [List.length_take, pms, List.length_map]; omega
section
variable (L : List Vm) (v : Value) (w : World) (hL : Mw w [] v L) (hin : ∀ p ∈ L, inM p.2) (hlen : L.length ≤ 100000)
include hL hin hlen
set_option maxHeartbeats 4000000 in
set_option maxRecDepth 100000 in
theorem answers_c : Calls Tryz.prog 10 #[v] w fun e w' => ∃ sv, e = .returned sv ∧ w'.ownsRow w.heap.size 35 1 sv (runE (0, []) (pms L)).length (ns (runE (0, []) (pms L))) ∧ Ext w w' := by
  have hpr := hide (fun w' (hX : Ext w w') (h0 : BxA w' w.heap.size w.heap.size (runE (0, []) ((pms L).take 0))) => processA_c w L v w.heap.size (fun k w' => BxA w' w.heap.size w.heap.size (runE (0, []) ((pms L).take k))) hL hin hlen w' hX h0 (fun k w1 w2 h hx => h.ext hx) (fun k s mb w1 w2 h hst hF => h.stay hst hF) (fun k p u w1 s mb hp hu hI hX1 hst => by
    obtain ⟨UA, uc, eu⟩ := rw_val hu
    obtain ⟨PA, pc, ep⟩ := rw_val (hL.2 p (List.mem_of_getElem? hp))
    have hl := runE_len ((pms L).take k) (0, [])
    have := pms_len L k
    refine (ansPut_c w w.heap.size s mb _ p.2.1.1 p.2.1.2.1 p.2.1.2.2.1 p.2.1.2.2.2 u p.1 PA UA _ pc _ uc ep eu _ _ (by omega) w1 hI hX1 hst).mono ?_
    rintro e w2 ⟨h1, h2, h3⟩
    rw [runE_take (pms_at hp)]
    exact ⟨h1, h2, h3⟩))
  obtain ⟨LA, lc, rfl, -, -, -⟩ := mw_form hL
  have h00 := hide (show BxA (w.alloc (.cells #[.slice none 0 0] 24)) w.heap.size w.heap.size (runE (0, []) ((pms L).take 0)) from ⟨.slice none 0 0, Ob.new w 24 [.slice none 0 0], World.ownsRow_nil _ _ _ _, Nat.le_refl _⟩)
  clear hL hin
  go_enter Tryz.func10, Tryz.ntmps10
  go_wp2_with (go_at_call 48; (refine (hpr.out _ ((Ext.refl w).alloc _) h00.out).mono ?_; rintro ee w2 ⟨rfl, ⟨sv, hO, ho, hB⟩, hX2⟩; obtain ⟨A2, c2, e2⟩ := own_form ho; subst e2; have q0 := hO.cell 0 rfl; have ql := hO.lt; haveI : In w.heap.size w2 := ⟨ql⟩; replace ho := hide ho; replace hX2 := hide hX2; clear hO))
  go_returns
  refine ⟨_, rfl, ?_, hX2.out⟩
  have h1 := ho.out
  rw [show (pms L).take L.length = pms L by rw [List.take_of_length_le]; simp [pms]] at h1 ⊢
  exact h1
set_option maxHeartbeats 4000000 in
set_option maxRecDepth 100000 in
theorem clock_c : Calls Tryz.prog 12 #[v] w fun e w' => e = .returned (.int .i64 (runS (0, []) (pms L)).1) ∧ Ext w w' := by
  have hpr := hide (fun w' (hX : Ext w w') (h0 : BxC w' w.heap.size w.heap.size (runS (0, []) ((pms L).take 0)).1) => processC_c w L v w.heap.size (fun k w' => BxC w' w.heap.size w.heap.size (runS (0, []) ((pms L).take k)).1) hL hin hlen w' hX h0 (fun k w1 w2 h hx => h.ext hx) (fun k s mb w1 w2 h hst hF => h.stay hst hF) (fun k p u w1 s mb hp hu hI hX1 hst => by
    obtain ⟨UA, uc, eu⟩ := rw_val hu
    obtain ⟨PA, pc, ep⟩ := rw_val (hL.2 p (List.mem_of_getElem? hp))
    refine (clkPut_c w w.heap.size s mb _ p.2.1.1 p.2.1.2.1 p.2.1.2.2.1 p.2.1.2.2.2 u p.1 PA UA _ pc _ uc ep eu _ _ w1 hI hX1 hst).mono ?_
    rintro e w2 ⟨h1, h2, h3⟩
    rw [runS_take (pms_at hp), stp_clk]
    exact ⟨h1, h2, h3⟩))
  obtain ⟨LA, lc, rfl, -, -, -⟩ := mw_form hL
  have h00 := hide (show BxC (w.alloc (.cells #[.int .i64 0] 3)) w.heap.size w.heap.size (runS (0, []) ((pms L).take 0)).1 from ⟨Ob.new w 3 [.int .i64 0], Nat.le_refl _⟩)
  obtain ⟨R, hR⟩ : ∃ R, R = (runS (0, []) (pms L)).1 := ⟨_, rfl⟩
  rw [← hR]
  have hR2 : (runS (0, []) ((pms L).take L.length)).1 = R := by rw [hR, show (pms L).take L.length = pms L by rw [List.take_of_length_le]; simp [pms]]
  rw [hR2] at hpr
  replace hR := hide hR
  clear hL hin hR2
  go_enter Tryz.func12, Tryz.ntmps12
  go_wp2_with (go_at_call 48; (refine (hpr.out _ ((Ext.refl w).alloc _) h00.out).mono ?_; rintro ee w2 ⟨rfl, ⟨hO, hB⟩, hX2⟩; have q0 := hO.cell 0 rfl; have ql := hO.lt; haveI : In w.heap.size w2 := ⟨ql⟩; replace hX2 := hide hX2; clear hO))
  go_returns
  exact ⟨rfl, hX2.out⟩
set_option maxHeartbeats 4000000 in
set_option maxRecDepth 100000 in
theorem events_c : Calls Tryz.prog 15 #[v] w fun e w' => ∃ sv M, e = .returned sv ∧ OwnEx w' w.heap.size sv M ∧ M.map Prod.snd = (exL (runS (0, []) (pms L)).2).filter (fun x => !goneX x) ∧ Ext w w' := by
  have hpr := hide (fun w' (hX : Ext w w') (h0 : ∃ M, BxE w' w.heap.size w.heap.size M ∧ M.map Prod.snd = exL (runS (0, []) ((pms L).take 0)).2) => processE_c w L v w.heap.size (fun k w' => ∃ M, BxE w' w.heap.size w.heap.size M ∧ M.map Prod.snd = exL (runS (0, []) ((pms L).take k)).2) hL hin hlen w' hX h0 (fun k w1 w2 h hx => by obtain ⟨M, h1, h2⟩ := h; exact ⟨M, h1.ext hx, h2⟩) (fun k s mb w1 w2 h hst hF => by obtain ⟨M, h1, h2⟩ := h; exact ⟨M, h1.stay hst hF, h2⟩) (fun k p u w1 s mb hp hu hI hX1 hst => by
    obtain ⟨M, h1, h2⟩ := hI
    obtain ⟨PA, pc, ep⟩ := rw_val (hL.2 p (List.mem_of_getElem? hp))
    obtain ⟨T, hT⟩ := runS_inv ((pms L).take k)
    have hl := congrArg List.length h2
    rw [List.length_map] at hl
    unfold exL at hl
    rw [List.length_map] at hl
    have hl2 := runS_len ((pms L).take k) (0, [])
    simp only [List.length_nil, Nat.zero_add] at hl2
    have := pms_len L k
    have hser := chg_ser hT p.2
    have hr8 := chg_r8 hT p.2
    have hx1 := ex_none hT p.2
    have hx2 := ex_ins hT p.2
    have hx3 := ex_ret hT p.2
    rw [runS_take (pms_at hp)]
    generalize runS (0, []) ((pms L).take k) = S at *
    obtain ⟨pv, ⟨pk, pi, pf, pt⟩, pl⟩ := p
    simp only at *
    generalize hC : chg S ((pk, pi, pf, pt), pl) = C at *
    obtain ⟨cs, cr, ⟨o1, o2⟩, n1, n2⟩ := C
    simp only at *
    cases hs : decide (0 < cs)
    · rw [hs] at hser
      refine (evtPut0_c w w.heap.size s mb M pk pi pf pt u pv PA _ pc ep (cs, cr, (o1, o2), (n1, n2)) hu hs _ w1 h1 hX1 hst).mono ?_
      rintro e w2 ⟨k1, k2, k4⟩
      exact ⟨k1, ⟨M, k2, by rw [hx1 hser]; exact h2⟩, k4⟩
    · rw [hs] at hser
      by_cases h1k : pk = 1
      · subst h1k
        refine (evtPut1_c w w.heap.size s mb M pi pf pt u pv PA _ pc ep cs cr o1 o2 n1 n2 hu hr8 hs _ (by omega) w1 h1 hX1 hst).mono ?_
        rintro e w2 ⟨k1, ⟨M', k2, k3⟩, k4⟩
        exact ⟨k1, ⟨M', k2, by rw [hx2 hser rfl, k3, h2]⟩, k4⟩
      · obtain ⟨x, g1, g2, g3⟩ := hx3 hser h1k
        have hM : ∃ q, M[cs - 1]? = some q ∧ q.2 = x := by
          have : (M.map Prod.snd)[cs - 1]? = some x := by rw [h2]; exact g2
          rw [List.getElem?_map] at this
          cases hq : M[cs - 1]? with
          | none => rw [hq] at this; cases this
          | some q => rw [hq] at this; exact ⟨q, rfl, Option.some.inj this⟩
        obtain ⟨q, hq, rfl⟩ := hM
        refine (evtPut2_c w w.heap.size s mb M pk pi pf pt h1k u pv PA _ pc ep cs cr o1 o2 n1 n2 hu hs q hq _ (by omega) w1 h1 hX1 hst).mono ?_
        rintro e w2 ⟨k1, ⟨M', k2, k3⟩, k4⟩
        exact ⟨k1, ⟨M', k2, by rw [g3, k3, h2]⟩, k4⟩))
  obtain ⟨LA, lc, rfl, -, -, -⟩ := mw_form hL
  have h00 := hide (show ∃ M, BxE (w.alloc (.cells #[.slice none 0 0] 31)) w.heap.size w.heap.size M ∧ M.map Prod.snd = exL (runS (0, []) ((pms L).take 0)).2 from ⟨[], ⟨.slice none 0 0, Ob.new w 31 [.slice none 0 0], OwnX.nil _ _, Nat.le_refl _⟩, rfl⟩)
  have hlL := hide (runS_len (pms L) (0, []))
  have hdel := hide (fun M sv w' (ho : OwnEx w' w.heap.size sv M) (hX : Ext w w') (hn : M.length ≤ 200000) => evtDel_c w M sv w' ho hX hn)
  clear hL hin
  go_enter Tryz.func15, Tryz.ntmps15
  go_wp2_with (first | (go_at_call 48; (refine (hpr.out _ ((Ext.refl w).alloc _) h00.out).mono ?_; rintro ee w2 ⟨rfl, ⟨M, ⟨sv, hO, ho, hB⟩, hM⟩, hX2⟩; have hdl := hide (hdel.out M sv w2 ho hX2 (by have h1 := congrArg List.length hM; have h2 := hlL.out; rw [show (pms L).take L.length = pms L by rw [List.take_of_length_le]; simp [pms]] at h1; unfold exL at h1; rw [List.length_map, List.length_map] at h1; simp only [List.length_nil, Nat.zero_add, pms, List.length_map] at h1 h2; omega)); obtain ⟨A2, c2, e2⟩ := ho.form; subst e2; have q0 := hO.cell 0 rfl; have ql := hO.lt; haveI : In w.heap.size w2 := ⟨ql⟩; replace hM := hide hM; clear hO ho hX2)) | (go_at_call 56; (refine hdl.out.mono ?_; rintro ee w3 ⟨v3, rfl, ho3, hX3⟩; obtain ⟨A3, c3, e3⟩ := ho3.form; subst e3; replace ho3 := hide ho3; replace hX3 := hide hX3)))
  go_returns
  refine ⟨_, filtE M, rfl, ho3.out, ?_, hX3.out⟩
  have h1 := hM.out
  rw [show (pms L).take L.length = pms L by rw [List.take_of_length_le]; simp [pms]] at h1
  rw [← h1]
  unfold filtE
  rw [List.filter_map]
  rfl
end
end Go.Proofs.YtiknkcadbaeknaaGreat
