/-
  A helper of ours: no claim of its own. Layer 14 (past), the document's state of layer 13 in it: the document's state in memory; which event is known, by the document.
-/
import Derived.Test.YtajelkkiijdegaaGreatPasM
import Derived.Test.YtajelkkiijdegaaGreatPasK
set_option linter.unusedVariables false
set_option linter.unusedSimpArgs false
namespace Go.Proofs.YtajelkkiijdegaaGreat
open Go.RowKit
def resP (sc : List Cl) (s : StD) (m : PM) : Int := resI (mkM m) (decide (m.1.1 = 1)) (fitsS sc m.2) (chkD s m) 0
def stpP (sc : List Cl) (s : StD) (m : PM) : StD := if resP sc s m = 0 then (tk s m).1 else s
def runP (sc : List Cl) (s : StD) (l : List PM) : StD := l.foldl (stpP sc) s
theorem resI_cnt {K : Int} {ins fit : Bool} {E : Int} {c d : Nat} (hc : c < 4096) (hd : d < 4096) : resI K ins fit E c = resI K ins fit E d := by
  unfold resI
  rw [decide_eq_false (show ¬ 4096 ≤ c by omega), decide_eq_false (show ¬ 4096 ≤ d by omega)]
theorem resP_zero {sc : List Cl} {s : StD} {m : PM} (h : resP sc s m = 0) : chkD s m = 0 := resI_zero h
theorem stpP_stp (sc : List Cl) (s : StD) (m : PM) : stpP sc s m = s ∨ stpP sc s m = stp s m := by
  unfold stpP
  by_cases h : resP sc s m = 0
  · rw [if_pos h]; right; unfold stp; rw [if_pos (resP_zero h)]
  · rw [if_neg h]; exact .inl rfl
theorem runP_snoc (sc : List Cl) (s : StD) (l : List PM) (m : PM) : runP sc s (l ++ [m]) = stpP sc (runP sc s l) m := by unfold runP; rw [List.foldl_append]; rfl
theorem runP_run (sc : List Cl) : ∀ (n : Nat) (l : List PM), l.length = n → ∃ l', l'.length ≤ l.length ∧ runP sc (0, []) l = runS (0, []) l'
  | 0, l, h => by
    have := List.eq_nil_of_length_eq_zero h
    subst this
    exact ⟨[], Nat.le_refl _, rfl⟩
  | n + 1, l, h => by
    obtain ⟨a, m, rfl⟩ : ∃ a m, l = a ++ [m] := by
      rcases List.eq_nil_or_concat l with rfl | ⟨a, m, e⟩
      · cases h
      · exact ⟨a, m, by simpa using e⟩
    obtain ⟨l', h1, h2⟩ := runP_run sc n a (by simpa using h)
    rw [runP_snoc]
    rcases stpP_stp sc (runP sc (0, []) a) m with e | e
    · exact ⟨l', by rw [List.length_append]; simp; omega, by rw [e, h2]⟩
    · exact ⟨l' ++ [m], by simp; omega, by rw [e, h2, runS_app]; rfl⟩
theorem runP_inv (sc : List Cl) (l : List PM) : ∃ T, InvF T (runP sc (0, []) l) := by
  obtain ⟨l', -, e⟩ := runP_run sc _ l rfl
  rw [e]
  exact runS_inv l'
theorem runP_len (sc : List Cl) (l : List PM) : (runP sc (0, []) l).2.length ≤ l.length := by
  obtain ⟨l', h, e⟩ := runP_run sc _ l rfl
  rw [e]
  have := runS_len l' (0, [])
  simp only [List.length_nil, Nat.zero_add] at this
  omega
theorem runP_take {sc : List Cl} {l : List PM} {k : Nat} {m : PM} (h : l[k]? = some m) : runP sc (0, []) (l.take (k + 1)) = stpP sc (runP sc (0, []) (l.take k)) m := by rw [take_one h, runP_snoc]
/-- What a message's change is. -/
def chQ (sc : List Cl) (s : StD) (m : PM) : Ch := if resP sc s m = 0 then (tk s m).2 else zCh
theorem chQ_T {sc : List Cl} {s : StD} {m : PM} {L : List Pb} : chT L s m (resP sc s m) = chQ sc s m := by
  unfold chT chQ
  by_cases h0 : resP sc s m = 0
  · by_cases h3 : m.1.1 = 3
    · rw [if_neg (by simp [h3]), if_pos h0]
      unfold tk
      rw [if_pos h3]
    · rw [if_pos ⟨h0, h3⟩, if_pos h0]
  · rw [if_neg (by simp [h0]), if_neg h0]
theorem chQ_V {sc : List Cl} {s : StD} {m : PM} (h0 : resP sc s m = 0) : chg s m = chQ sc s m := by
  unfold chg chQ
  rw [if_pos h0, if_pos (resP_zero h0)]
/-- How many events are known, by the document. -/
def knwB (c : Int) (e : Ev) : Bool := !e.2.2 && decide (c < e.2.1.2)
def knwN (c : Int) (l : List Ev) : Nat := (l.filter (knwB c)).length
theorem knw_le (c : Int) (l : List Ev) : knwN c l ≤ l.length := List.length_filter_le _ _
theorem knw_take {c : Int} {l : List Ev} {k : Nat} {e : Ev} (h : l[k]? = some e) : knwN c (l.take (k + 1)) = knwN c (l.take k) + (if knwB c e then 1 else 0) := by
  unfold knwN
  rw [List.take_add_one, h, List.filter_append, List.length_append]
  simp only [Option.toList_some, List.filter_cons, List.filter_nil]
  split <;> rfl
end Go.Proofs.YtajelkkiijdegaaGreat
set_option linter.unusedVariables false
set_option linter.unusedSimpArgs false
namespace Go.Proofs.YtajelkkiijdegaaGreat
open Go.RowKit
attribute [local go_sem] GW.cell GW.frozen In.eq_true In.le_true In.ne In.ne' In.ne_add In.ne_add' In.lt_add Upto.le_true Upto.le_add Upto.lt_add
def evD (v : Value) (e : Ev) : List Value := [.int .i64 e.1.1, v, .int .i64 e.2.1.1, .int .i64 e.2.1.2]
abbrev OwnEv := OwnX 59 4 evD (fun e : Ev => e.1.2)
abbrev Lv := Value × Ev
def gnO (L : List Lv) : List Value := L.map fun p => .bool p.2.2.2
/-- The document's state: its block, its events, which of them are gone. -/
structure Sd (w : World) (base r : Nat) (sv : Value) (S : StD) (ev gv : Value) (L : List Lv) : Prop where
  ob : Ob w r 51 [sv, .int .i64 S.1, ev, gv]
  own : OwnEv w base ev L
  gone : w.ownsRow base 4 1 gv L.length (gnO L)
  evs : L.map Prod.snd = S.2
  rb : base ≤ r
theorem Sd.ext {w w' : World} {base r : Nat} {sv : Value} {S : StD} {ev gv : Value} {L : List Lv} (h : Sd w base r sv S ev gv L) (k : Ext w w') : Sd w' base r sv S ev gv L := ⟨h.ob.ext k, h.own.ext k, own_ext h.gone k, h.evs, h.rb⟩
theorem evd_get : ∀ (L : List Lv) (i : Nat) (p : Lv), L[i]? = some p → ∀ j u, (evD p.1 p.2)[j]? = some u → (L.flatMap fun p => evD p.1 p.2)[i * 4 + j]? = some u
  | q :: r, 0, p, h, j, u, hu => by
    simp at h; subst h
    have hj : j < (evD q.1 q.2).length := (List.getElem?_eq_some_iff.1 hu).1
    rw [List.flatMap_cons, List.getElem?_append_left (by omega), show 0 * 4 + j = j by omega]; exact hu
  | q :: r, i + 1, p, h, j, u, hu => by
    have := evd_get r i p (by simpa using h) j u hu
    rw [List.flatMap_cons, show (i + 1) * 4 + j = (evD q.1 q.2).length + (i * 4 + j) by simp [evD]; omega, List.getElem?_append_right (by omega), Nat.add_sub_cancel_left]
    exact this
/-- An event's cells, and whether it is gone. -/
theorem Sd.at {w : World} {base r : Nat} {sv : Value} {S : StD} {ev gv : Value} {L : List Lv} (h : Sd w base r sv S ev gv L) {k : Nat} {p : Lv} (hp : L[k]? = some p) : ∃ g cap g2 cap2 PA pc, ev = .slice (some ⟨g, 0, none⟩) L.length cap ∧ gv = .slice (some ⟨g2, 0, none⟩) L.length cap2 ∧ g < w.heap.size ∧ g2 < w.heap.size ∧ p.1 = .slice PA p.2.1.2.length pc ∧ w.cell? ⟨g, k * 4, none⟩ = some (.int .i64 p.2.1.1) ∧ w.cell? ⟨g, k * 4 + 1, none⟩ = some p.1 ∧ w.cell? ⟨g, k * 4 + 2, none⟩ = some (.int .i64 p.2.2.1.1) ∧ w.cell? ⟨g, k * 4 + 3, none⟩ = some (.int .i64 p.2.2.1.2) ∧ w.cell? ⟨g2, k, none⟩ = some (.bool p.2.2.2) := by
  have hk : k < L.length := (List.getElem?_eq_some_iff.1 hp).1
  obtain ⟨PA, pc, e⟩ := rwo_val (h.own.2 p (List.mem_of_getElem? hp))
  rcases h.own.1.2 with ⟨-, h2⟩ | ⟨g, cap, cur, rfl, hb, hg, -⟩
  · omega
  rcases h.gone.2 with ⟨-, h2⟩ | ⟨g2, cap2, cur2, rfl, hb2, hg2, -⟩
  · omega
  have c0 := h.own.1.cells (g := g) rfl (k * 4 + 0) _ (evd_get L k p hp 0 _ rfl)
  have c1 := h.own.1.cells (g := g) rfl (k * 4 + 1) _ (evd_get L k p hp 1 _ rfl)
  have c2 := h.own.1.cells (g := g) rfl (k * 4 + 2) _ (evd_get L k p hp 2 _ rfl)
  have c3 := h.own.1.cells (g := g) rfl (k * 4 + 3) _ (evd_get L k p hp 3 _ rfl)
  have c4 := h.gone.cells (g := g2) rfl k (.bool p.2.2.2) (by unfold gnO; rw [List.getElem?_map, hp]; rfl)
  rw [add_plain, Nat.zero_add] at c0 c1 c2 c3 c4
  exact ⟨g, cap, g2, cap2, PA, pc, rfl, rfl, block_lt_of_cell c0, block_lt_of_cell c4, e, c0, c1, c2, c3, c4⟩
def fndI (c id : Int) (k : Nat) (l : List Ev) : Int := match kn c id k l with
  | none => -1
  | some x => x.1
theorem fnd_cons {c id : Int} {k : Nat} {l : List Ev} {e : Ev} (h : l[k]? = some e) : fndI c id k (l.drop k) = if liveE c id e = true then (k : Int) else fndI c id (k + 1) (l.drop (k + 1)) := by
  obtain ⟨h1, h2⟩ := List.getElem?_eq_some_iff.1 h
  rw [List.drop_eq_getElem_cons h1, h2]
  unfold fndI
  rw [kn]
  cases liveE c id e <;> rfl
set_option maxHeartbeats 8000000 in
set_option maxRecDepth 100000 in
theorem refFind_c (base r : Nat) (sv : Value) (S : StD) (ev gv : Value) (L : List Lv) (id : Int) (w : World) (h : Sd w base r sv S ev gv L) (hn : L.length ≤ 200000) : Calls Tryz.prog 22 #[.pointer (some ⟨r, 1, none⟩), .int .i64 id] w fun e w' => e = .returned (.int .i64 (fndI S.1 id 0 S.2)) ∧ Ext w w' := by
  obtain ⟨A, cap, rfl⟩ := h.own.form
  obtain ⟨A2, cap2, rfl⟩ := own_form h.gone
  have hlt := h.ob.lt
  have c0 := hide (h.ob.cell 1 rfl)
  have c1 := hide (h.ob.cell 2 rfl)
  have c2 := hide (h.ob.cell 3 rfl)
  replace h := hide h
  obtain ⟨R, hR⟩ : ∃ R, R = fndI S.1 id 0 S.2 := ⟨_, rfl⟩
  rw [← hR]
  replace hR := hide hR
  go_enter Tryz.func22, Tryz.ntmps22
  go_wp2_with fail
  go_loopg [5] L.length (fun gh i wr => ∃ (k : Nat), i = .int .i64 k ∧ k + gh = L.length ∧ Hid (R = fndI S.1 id k (S.2.drop k)) ∧ Ext w wr)
  case atStart => exact ⟨0, rfl, by omega, by simpa using hR, Ext.refl w⟩
  case round =>
    obtain ⟨k, rfl, hk, hRk, hX⟩ := hrel
    clear hR
    have k0 := cell_later hX c0.out
    have k1 := cell_later hX c1.out
    have k2 := cell_later hX c2.out
    have hrl := block_lt_of_cell k0
    haveI : In r wr := ⟨hrl⟩
    by_cases hlt2 : k < L.length
    · have hltI : (k : Int) < L.length := by omega
      obtain ⟨p, hp⟩ : ∃ p, L[k]? = some p := ⟨_, List.getElem?_eq_getElem hlt2⟩
      obtain ⟨g, cap', g2, cap2', PA, pc, e1, e2, hgl, hgl2, e3, q0, q1, q2, q3, q4⟩ := (h.out.ext hX).at hp
      cases e1; cases e2
      haveI : In g wr := ⟨hgl⟩
      haveI : In g2 wr := ⟨hgl2⟩
      have hep : S.2[k]? = some p.2 := by rw [← h.out.evs, List.getElem?_map, hp]; rfl
      have hR2 := hRk.out
      rw [fnd_cons hep] at hR2
      obtain ⟨pv, ⟨pi, pr⟩, ⟨p1, p2⟩, pg⟩ := p
      simp only at q0 q1 q2 q3 q4 hR2 e3
      obtain ⟨S1, S2⟩ := S
      simp only at *
      clear hp hep hRk
      by_cases hid : pi = id
      · subst hid
        cases pg
        · by_cases hc : S1 < p2
          · have hl : liveE S1 pi ((pi, pr), (p1, p2), false) = true := live_iff.2 ⟨rfl, rfl, hc⟩
            rw [if_pos hl] at hR2
            replace hR2 := hide hR2
            have dc : decide (S1 < p2) = true := decide_eq_true hc
            go_wp2_with fail
            refine wp_region_gw (by kernel_rfl) (by kernel_rfl) ?_
            repeat (go_big_quiet_step (fail))
            refine wpQuiet_nil ?_
            intro g5
            go_wp2_with fail
            go_returns
            exact ⟨by rw [hR2.out]; rfl, hX.trans (by first | exact g5.grown | exact Gn.ext)⟩
          · have hl : liveE S1 pi ((pi, pr), (p1, p2), false) = false := by cases hq : liveE S1 pi ((pi, pr), (p1, p2), false); rfl; exact absurd (live_iff.1 hq).2.2 hc
            rw [hl, if_neg (by decide)] at hR2
            replace hR2 := hide hR2
            have dc : decide (S1 < p2) = false := decide_eq_false hc
            go_wp2_with fail
            refine wp_region_gw (by kernel_rfl) (by kernel_rfl) ?_
            repeat (go_big_quiet_step (fail))
            refine wpQuiet_nil ?_
            intro g5
            go_wp2_with fail
            go_roundg (L.length - (k + 1))
            case measure => omega
            case rel => exact ⟨k + 1, by go_num, by omega, hR2, hX.trans (by first | exact g5.grown | exact Gn.ext)⟩
        · have hl : liveE S1 pi ((pi, pr), (p1, p2), true) = false := by cases hq : liveE S1 pi ((pi, pr), (p1, p2), true); rfl; exact absurd (live_iff.1 hq).2.1 (by simp)
          rw [hl, if_neg (by decide)] at hR2
          replace hR2 := hide hR2
          go_wp2_with fail
          refine wp_region_gw (by kernel_rfl) (by kernel_rfl) ?_
          repeat (go_big_quiet_step (fail))
          refine wpQuiet_nil ?_
          intro g5
          go_wp2_with fail
          go_roundg (L.length - (k + 1))
          case measure => omega
          case rel => exact ⟨k + 1, by go_num, by omega, hR2, hX.trans (by first | exact g5.grown | exact Gn.ext)⟩
      · have hl : liveE S1 id ((pi, pr), (p1, p2), pg) = false := by cases hq : liveE S1 id ((pi, pr), (p1, p2), pg); rfl; exact absurd (live_iff.1 hq).1 hid
        rw [hl, if_neg (by decide)] at hR2
        replace hR2 := hide hR2
        have i0 : (pi == id) = false := by simp [hid]
        go_wp2_with fail
        refine wp_region_gw (by kernel_rfl) (by kernel_rfl) ?_
        repeat (go_big_quiet_step (fail))
        refine wpQuiet_nil ?_
        intro g5
        go_wp2_with fail
        go_roundg (L.length - (k + 1))
        case measure => omega
        case rel => exact ⟨k + 1, by go_num, by omega, hR2, hX.trans (by first | exact g5.grown | exact Gn.ext)⟩
    · have hke : k = L.length := by omega
      have hge : (L.length : Int) ≤ k := by omega
      have dk : decide ((k : Int) < L.length) = false := decide_eq_false (by omega)
      have hRn : Hid (R = -1) := by
        show _ = _
        have hl : S.2.length = L.length := by rw [← h.out.evs, List.length_map]
        rw [hRk.out, hke, ← hl, List.drop_length]; rfl
      clear hRk h
      go_wp2_with fail
      go_returns
      exact ⟨by rw [hRn.out]; rfl, hX⟩
end Go.Proofs.YtajelkkiijdegaaGreat
