/-
  A helper of ours: no claim of its own. Layer 11 (pack): which pieces may be, by the document.
-/
import Derived.Test.YtiknkcadbaeknaaGreatEdgNd
import Derived.Test.YtiknkcadbaeknaaGreatEdgMy
import Derived.Test.YtiknkcadbaeknaaGreatEdgGs
import Derived.Test.YtiknkcadbaeknaaGreatEdgRo
import Derived.Test.YtiknkcadbaeknaaGreatPakW
import Derived.Test.YtiknkcadbaeknaaGreatFolG
import Derived.Test.YtiknkcadbaeknaaGreatReg5
set_option linter.unusedVariables false
set_option linter.unusedSimpArgs false
namespace Go.Proofs.YtiknkcadbaeknaaGreat
open Go.RowKit
attribute [local go_sem] GW.cell GW.frozen In.eq_true In.le_true In.ne In.ne' In.ne_add In.ne_add' In.lt_add Upto.le_true Upto.le_add Upto.lt_add
end Go.Proofs.YtiknkcadbaeknaaGreat
set_option linter.unusedVariables false
set_option linter.unusedSimpArgs false
namespace Go.Proofs.YtiknkcadbaeknaaGreat
open Go.RowKit
def okEv (e : Ev) : Prop := mayR e.1.2 = true ∧ 0 ≤ e.2.1.1 ∧ e.2.1.1 < e.2.1.2 ∧ e.2.1.2 ≤ 1125899906842624
def okS (S : StD) : Prop := ∀ e ∈ S.2, okEv e
/-- The ways of a message that is taken. -/
theorem take_ways {S : StD} {m : PM} (h0 : chkD S m = 0) : (m.1.1 = 3 ∧ stp S m = (m.1.2.2.1, S.2) ∧ chg S m = zCh) ∨
    (m.1.1 = 1 ∧ okEv ((m.1.2.1, m.2), (m.1.2.2.1, m.1.2.2.2), false) ∧ (stp S m).2 = S.2 ++ [((m.1.2.1, m.2), (m.1.2.2.1, m.1.2.2.2), false)] ∧ chg S m = (S.2.length + 1, m.2, (0, 0), (m.1.2.2.1, m.1.2.2.2))) ∨
    (m.1.1 = 2 ∧ ∃ j e, S.2[j]? = some e ∧ e.2.2 = false ∧ m.1.2.2.2 < e.2.1.2 ∧ e.2.1.1 ≤ m.1.2.2.2 ∧ S.1 ≤ m.1.2.2.2 ∧ (stp S m).2 = S.2.set j (if m.1.2.2.2 = e.2.1.1 then (e.1, e.2.1, true) else (e.1, (e.2.1.1, m.1.2.2.2), false)) ∧ chg S m = (j + 1, e.1.2, e.2.1, cut e.2.1 m.1.2.2.2)) := by
  obtain ⟨z1, z2, z3, z4⟩ := chkO_zero h0
  have e1 : stp S m = (tk S m).1 := by unfold stp; rw [if_pos h0]
  have e2 : chg S m = (tk S m).2 := by unfold chg; rw [if_pos h0]
  rw [e1, e2]
  unfold tk
  by_cases h3 : m.1.1 = 3
  · rw [if_pos h3]; exact .inl ⟨h3, rfl, rfl⟩
  · rw [if_neg h3]
    by_cases h1 : m.1.1 = 1
    · rw [if_pos h1]
      have z := z1
      unfold mkM at z
      rw [h1] at z
      obtain ⟨k1, -, k2, k3, k4⟩ := mchk_one z
      exact .inr (.inl ⟨h1, ⟨k1, k2, k3, k4⟩, rfl, rfl⟩)
    · rw [if_neg h1]
      have h2 : m.1.1 = 2 := by rcases mchk_kind z1 with hk | hk | hk; exact absurd hk h1; exact hk; exact absurd hk h3
      obtain ⟨x, hx, y1, y2, y3⟩ := z2 h2
      cases hk : kn S.1 m.1.2.1 0 S.2 with
      | none => rw [hk] at hx; cases hx
      | some p =>
        obtain ⟨j, e⟩ := p
        rw [hk, Option.map_some, Option.some.injEq] at hx
        subst hx
        obtain ⟨-, hj, hl⟩ := kn_some hk
        rw [Nat.sub_zero] at hj
        exact .inr (.inr ⟨h2, j, e, hj, (live_iff.1 hl).2.1, y1, y2, y3, rfl, rfl⟩)
theorem stp_no {S : StD} {m : PM} (h0 : chkD S m ≠ 0) : stp S m = S := by unfold stp; rw [if_neg h0]
theorem stp_okS {S : StD} (h : okS S) (m : PM) : okS (stp S m) := by
  by_cases h0 : chkD S m = 0
  · rcases take_ways h0 with ⟨-, e, -⟩ | ⟨-, k, e, -⟩ | ⟨-, j, x, hj, hg, y1, y2, y3, e, -⟩
    · rw [e]; exact h
    · intro a ha
      rw [e] at ha
      rcases List.mem_append.1 ha with ha | ha
      · exact h a ha
      · rw [List.mem_singleton.1 ha]; exact k
    · intro a ha
      rw [e] at ha
      have hx := h x (List.mem_of_getElem? hj)
      rcases List.mem_or_eq_of_mem_set ha with ha | ha
      · exact h a ha
      · rw [ha]
        by_cases ht : m.1.2.2.2 = x.2.1.1
        · rw [if_pos ht]; exact hx
        · rw [if_neg ht]
          obtain ⟨k1, k2, k3, k4⟩ := hx
          exact ⟨k1, k2, by simp only; omega, by simp only; omega⟩
  · rw [stp_no h0]; exact h
theorem run_okS : ∀ (l : List PM) {S : StD}, okS S → okS (runS S l)
  | [], _, h => h
  | m :: r, S, h => run_okS r (stp_okS h m)
theorem ex_okS : okS (0, []) := fun e he => by cases he
/-! the changes -/
def okCh (c : Ch) : Prop := mayR c.2.1 = true ∧ lifeB c.2.2.1 = true ∧ lifeB c.2.2.2 = true
def chv (q : List Vl) (u : Int) (c : Ch) : Int := if c.2.1 = q then jv (chJ c.2.2.1 c.2.2.2) u else 0
def sumV (q : List Vl) (u : Int) : List Ch → Int
  | [] => 0
  | c :: r => chv q u c + sumV q u r
/-! edges -/
/-- What a list of edges amounts to. -/
def Amt (E : List Ed) (V : List Vl → Int → Int) : Prop := mayE E = true ∧ ∀ r u, u < 1125899906842624 → jv (jmps E r) u = V r u
end Go.Proofs.YtiknkcadbaeknaaGreat
set_option linter.unusedVariables false
set_option linter.unusedSimpArgs false
namespace Go.Proofs.YtiknkcadbaeknaaGreat
open Go.RowKit
attribute [local go_sem] GW.cell GW.frozen In.eq_true In.le_true In.ne In.ne' In.ne_add In.ne_add' In.lt_add Upto.le_true Upto.le_add Upto.lt_add
/-- The events that are left. -/
def lftL (l : List Ev) : List Ex := (l.filter fun e => !e.2.2).map fun e => (e.1, e.2.1)
theorem lft_cons (e : Ev) (r : List Ev) : lftL (e :: r) = (if e.2.2 = true then [] else [(e.1, e.2.1)]) ++ lftL r := by
  unfold lftL
  cases h : e.2.2
  · rw [List.filter_cons_of_pos (by rw [h]; rfl)]; simp
  · rw [List.filter_cons_of_neg (by rw [h]; simp)]; simp
theorem lft_app : ∀ (a b : List Ev), lftL (a ++ b) = lftL a ++ lftL b := fun a b => by unfold lftL; rw [List.filter_append, List.map_append]
theorem lft_len (l : List Ev) : (lftL l).length ≤ l.length := by unfold lftL; rw [List.length_map]; exact List.length_filter_le _ _
theorem lft_ex : ∀ (l : List Ev), (∀ e ∈ l, okEv e) → (exL l).filter (fun x => !goneX x) = lftL l
  | [], _ => rfl
  | e :: r, h => by
    have ih := lft_ex r (fun x hx => h x (List.mem_cons_of_mem _ hx))
    obtain ⟨-, h1, h2, -⟩ := h e (List.mem_cons_self)
    rw [lft_cons, ← ih]
    show List.filter _ (exE e :: exL r) = _
    cases hb : e.2.2
    · have hg : goneX (exE e) = false := by
        unfold goneX exE
        rw [hb, decide_eq_false_iff_not]
        simp only
        intro hh
        have := hh.1; have := hh.2
        simp at *
        omega
      rw [List.filter_cons_of_pos (by rw [hg]; rfl)]
      unfold exE
      rw [hb]
      simp
    · have hg : goneX (exE e) = true := by
        unfold goneX exE
        rw [hb, decide_eq_true_iff]
        exact ⟨rfl, rfl⟩
      rw [List.filter_cons_of_neg (by rw [hg]; simp)]
      simp
set_option maxHeartbeats 8000000 in
set_option maxRecDepth 100000 in
theorem refLeft_c (base r : Nat) (S : StD) (ev gv : Value) (L : List Lv) (w : World) (h : Sd w base r S ev gv L) (hn : L.length ≤ 4096) : Calls Tryz.prog 16 #[.pointer (some ⟨r, 0, none⟩)] w fun e w' => ∃ sv M, e = .returned sv ∧ OwnEx w' w.heap.size sv M ∧ M.map Prod.snd = lftL S.2 ∧ Ext w w' := by
  obtain ⟨EA, ec, rfl⟩ := h.own.form
  obtain ⟨GA, gc, rfl⟩ := own_form h.gone
  have hrl := h.ob.lt
  haveI : In r w := ⟨hrl⟩
  have hL0 := hide (World.ownsRow_lit (base := w.heap.size) (e := 48) (size := 4) w #[] 0 (Nat.le_refl _) (by decide) rfl)
  have hev := hide h.evs
  replace h := hide h
  go_enter Tryz.func16, Tryz.ntmps16
  go_wp2_with fail
  go_loopg [3, 4] L.length (fun gh lv iv wr => ∃ (k : Nat) (N : List (Value × Ex)), iv = .int .i64 k ∧ k + gh = L.length ∧ Hid (OwnEx wr w.heap.size lv N) ∧ Hid (N.map Prod.snd = lftL (S.2.take k)) ∧ N.length ≤ k ∧ Hid (Ext w wr))
  case atStart => exact ⟨0, [], rfl, by omega, ⟨hL0.out, by simp⟩, rfl, Nat.le_refl _, (Ext.refl w).alloc _⟩
  case round =>
    obtain ⟨k, N, rfl, hk, hN, hNe, hNl, hX⟩ := hrel
    have hzX := hX.out.size
    clear hL0
    have hS := h.out.ext hX.out
    have rl := hS.ob.lt
    haveI : In r wr := ⟨rl⟩
    have k1 := hS.ob.cell 1 rfl
    have k2 := hS.ob.cell 2 rfl
    obtain ⟨C, cc, eC⟩ := hN.out.form
    subst eC
    by_cases hlt : k < L.length
    · have hltI : (k : Int) < L.length := by omega
      obtain ⟨p, hp⟩ : ∃ p, L[k]? = some p := ⟨_, List.getElem?_eq_getElem hlt⟩
      have hep : S.2[k]? = some p.2 := by rw [← hev.out, List.getElem?_map, hp]; rfl
      obtain ⟨g, cap', g2, cap2', PA, pc, e1, e2, hgl, hgl2, e3, q0, q1, q2, q3, q4⟩ := hS.at hp
      have hrow := hide (hS.own.2 p (List.mem_of_getElem? hp))
      cases e1
      cases e2
      haveI : In g wr := ⟨hgl⟩
      haveI : In g2 wr := ⟨hgl2⟩
      have hnx := hide (show lftL (S.2.take k) ++ (if p.2.2.2 = true then [] else [(p.2.1, p.2.2.1)]) = lftL (S.2.take (k + 1)) by
        rw [take_one hep, lft_app, lft_cons]; simp [lftL])
      obtain ⟨pv, ⟨pi, pr⟩, ⟨p1, p2⟩, pg⟩ := p
      simp only at q0 q1 q2 q3 q4 e3 hrow hnx
      subst e3
      clear hp hep
      replace hS := hide hS
      cases pg
      · rw [if_neg (by decide)] at hnx
        go_wp2_with (at_builtin; (refine wpl_app tEvs rfl (.tmp 23) (.tmp 31) rfl rfl (own_ext hN.out.1 ((Ext.refl wr).alloc (.cells (evO (.slice PA pr.length pc) ((pi, pr), (p1, p2))).toArray 48))) rfl (src_sl Tryz.underlying31 (evO_new (.slice PA pr.length pc) ((pi, pr), (p1, p2)) wr) evO_one (by omega)) (by unfold maxLen; omega) (by omega) (by simp only [World.size_alloc]; omega) ?_; intro v8 w8 ho8 hg8 hd8; replace hg8 : World.grownBy _ w8 (Value.slice C N.length cc).ownBlock := hg8; replace ho8 := hide ho8; replace hg8 := hide hg8; clear hd8))
        have hE := (Ext.refl wr).alloc (.cells (evO (.slice PA pr.length pc) ((pi, pr), (p1, p2))).toArray 48)
        go_roundg (L.length - (k + 1))
        case measure => omega
        case rel =>
          refine ⟨k + 1, N ++ [(.slice PA pr.length pc, ((pi, pr), (p1, p2)))], by go_num, by omega, ?_, ?_, by simp; omega, ?_⟩
          · exact OwnX.app (by decide) (hN.out.ext hE) (M := [(.slice PA pr.length pc, ((pi, pr), (p1, p2)))]) (by simpa using ho8.out) hg8.out (fun q hq => by rw [List.mem_singleton.1 hq]; exact hrow.out.ext hE)
          · show List.map _ _ = _
            rw [← hnx.out, List.map_append, hNe.out]; rfl
          · exact ext_grown (hX.out.alloc _) hg8.out (fun q hq => ((own_ext hN.out.1 hE).lt q hq).1)
      · rw [if_pos rfl, List.append_nil] at hnx
        go_wp2_with fail
        go_roundg (L.length - (k + 1))
        case measure => omega
        case rel => exact ⟨k + 1, N, by go_num, by omega, hN.out, (by show List.map _ _ = _; rw [hNe.out, hnx.out]), by omega, hX.out⟩
    · have hke : k = L.length := by omega
      have hge : (L.length : Int) ≤ k := by omega
      have ht : S.2.take k = S.2 := List.take_of_length_le (by rw [← hev.out, List.length_map]; omega)
      rw [ht] at hNe
      replace hke := hide hke
      replace ht := hide ht
      replace hS := hide hS
      go_wp2_with fail
      go_returns
      exact ⟨_, N, rfl, hN.out, hNe.out, hX.out⟩
end Go.Proofs.YtiknkcadbaeknaaGreat
set_option linter.unusedVariables false
set_option linter.unusedSimpArgs false
namespace Go.Proofs.YtiknkcadbaeknaaGreat
open Go.RowKit
attribute [local go_sem] GW.cell GW.frozen In.eq_true In.le_true In.ne In.ne' In.ne_add In.ne_add' In.lt_add Upto.le_true Upto.le_add Upto.lt_add
theorem pcO_new (u : Value) (x : Ed) (w : World) : Sl (w.alloc (.cells (pcO u x).toArray 95)) [] 3 (.slice (some ⟨w.heap.size, 0, none⟩) 1 1) 1 (pcO u x) :=
  Sl.own (World.ownsRow_lit (base := w.heap.size) (e := 95) (size := 3) w (pcO u x).toArray 1 (Nat.le_refl _) (by decide) rfl) (by simp)
theorem buildPc (A : Option Addr) (n cap : Nat) (q : List Vl) (s : Spn) (w : World) : (Instr.buildSlice 50 1 #[(0, .agg #[.slice A n cap, .int .i64 s.1, .int .i64 s.2])]).run Tryz.prog w = .ok (.slice (some ⟨w.heap.size, 0, none⟩) 1 1) (w.alloc (.cells #[.slice A n cap, .int .i64 s.1, .int .i64 s.2] 95)) := by
  simp [go_sem]
set_option maxHeartbeats 8000000 in
set_option maxRecDepth 100000 in
theorem refPieces13_c (base : Nat) (M : List (Value × Ex)) (v : Value) (w : World) (h : OwnEx w base v M) (hn : M.length ≤ 4096) : Calls Tryz.prog 60 #[v] w fun e w' => ∃ sv N, e = .returned sv ∧ OwnPx w' w.heap.size sv N ∧ eds N = M.map (fun p => exP1 p.2) ∧ Ext w w' := by
  obtain ⟨VA, vc, rfl⟩ := h.form
  have hL0 := hide (World.ownsRow_lit (base := w.heap.size) (e := 95) (size := 3) w #[] 0 (Nat.le_refl _) (by decide) rfl)
  replace h := hide h
  go_enter Tryz.func60, Tryz.ntmps60
  go_wp2_with fail
  go_loopg [3, 4] M.length (fun gh lv iv wr => ∃ (k : Nat) (N : List Ve), iv = .int .i64 k ∧ k + gh = M.length ∧ N.length = k ∧ Hid (OwnPx wr w.heap.size lv N) ∧ Hid (eds N = (M.take k).map fun p => exP1 p.2) ∧ Hid (Ext w wr))
  case atStart => exact ⟨0, [], rfl, by omega, rfl, ⟨hL0.out, by simp⟩, rfl, (Ext.refl w).alloc _⟩
  case round =>
    obtain ⟨k, N, rfl, hk, hNl, hN, hNe, hX⟩ := hrel
    have hzX := hX.out.size
    clear hL0
    obtain ⟨C, cc, eC⟩ := hN.out.form
    subst eC
    by_cases hlt : k < M.length
    · have hltI : (k : Int) < M.length := by omega
      obtain ⟨x, hx⟩ : ∃ x, M[k]? = some x := ⟨_, List.getElem?_eq_getElem hlt⟩
      obtain ⟨g, cap, PA, pc, e1, -, hgl, e2, q0, q1, q2, q3⟩ := own_evat (h.out.ext hX.out) hx
      cases e1
      haveI : In g wr := ⟨hgl⟩
      have hrow := hide ((h.out.ext hX.out).2 x (List.mem_of_getElem? hx))
      have hnx := hide (show eds N ++ [exP1 x.2] = (M.take (k + 1)).map fun p => exP1 p.2 by rw [hNe.out, take_one hx, List.map_append]; rfl)
      obtain ⟨xv, ⟨xi, xr⟩, x1, x2⟩ := x
      simp only at e2 q0 q1 q2 q3 hrow
      subst e2
      obtain ⟨pl, hpl⟩ : ∃ pl, pl = xr.length := ⟨_, rfl⟩
      rw [← hpl] at q1 hrow
      replace hpl := hide hpl
      replace q1 := hide q1
      replace q2 := hide q2
      replace q3 := hide q3
      clear hx
      have hNb : N.length ≤ k := by omega
      replace hNl := hide hNl
      go_wp2_with fail
      refine wp_region_list_tail 13 [(.is (.slice C N.length cc)), (.is (.slice (some ⟨g, 0, none⟩) M.length vc)), (.is (.int .i64 k)), (.is (.pointer (some ⟨g, k * 4, none⟩))), (.is (.pointer (some ⟨g, k * 4 + 1, none⟩))), (.is (.slice PA pl pc)), (.is (.slice (some ⟨g, 0, none⟩) M.length vc)), (.is (.int .i64 k)), (.is (.pointer (some ⟨g, k * 4, none⟩))), (.is (.pointer (some ⟨g, k * 4 + 2, none⟩))), (.is (.agg #[.int .i64 x1, .int .i64 x2])), (.is (.agg #[.slice PA pl pc, .int .i64 x1, .int .i64 x2])), (.st (fun u w => Sl w [] 3 u 1 (pcO (.slice PA pl pc) (xr, (x1, x2)))) (fun _ _ _ h k => Sl.ext h k))] (by kernel_rfl) (by kernel_rfl) (by kernel_rfl) (by kernel_rfl) (by kernel_rfl) (by kernel_rfl) (by kernel_rfl) ?_ ?_
      · refine ⟨?_, ?_, ?_, ?_, ?_, ?_, ?_, ?_, ?_, ?_, ?_, ?_, ?_, trivial⟩
        · intro b w' h hE
          have f3 : b.tmps.getD 3 undef = .slice C N.length cc := hE 3 (of_decide_eq_true (by kernel_rfl))
          exact good_move (wanted_none rfl) rfl f3
        · intro b w' h hE
          have f0 : b.tmps.getD 0 undef = .slice (some ⟨g, 0, none⟩) M.length vc := hE 0 (of_decide_eq_true (by kernel_rfl))
          exact good_move (wanted_none rfl) rfl f0
        · intro b w' h hE
          have f4 : b.tmps.getD 4 undef = .int .i64 k := hE 4 (of_decide_eq_true (by kernel_rfl))
          exact good_move (wanted_none rfl) rfl f4
        · intro b w' h hE
          have f13 : b.tmps.getD 13 undef = .slice (some ⟨g, 0, none⟩) M.length vc := h.dep 1 _ 13 (by kernel_rfl) rfl rfl
          have f14 : b.tmps.getD 14 undef = .int .i64 k := h.dep 2 _ 14 (by kernel_rfl) rfl rfl
          exact good_index (wanted_none rfl) rfl f13 f14 (by simp [go_sem, hlt]) rfl
        · intro b w' h hE
          have f15 : b.tmps.getD 15 undef = .pointer (some ⟨g, k * 4, none⟩) := h.dep 3 _ 15 (by kernel_rfl) rfl rfl
          exact good_field (wanted_none rfl) rfl f15 (by simp [go_sem]) rfl
        · intro b w' h hE
          have f16 : b.tmps.getD 16 undef = .pointer (some ⟨g, k * 4 + 1, none⟩) := h.dep 4 _ 16 (by kernel_rfl) rfl rfl
          have c0 := cell_later h.ext q1.out
          exact good_load (wanted_none rfl) rfl f16 (by simp [go_sem, c0]) rfl
        · intro b w' h hE
          have f0 : b.tmps.getD 0 undef = .slice (some ⟨g, 0, none⟩) M.length vc := hE 0 (of_decide_eq_true (by kernel_rfl))
          exact good_move (wanted_none rfl) rfl f0
        · intro b w' h hE
          have f4 : b.tmps.getD 4 undef = .int .i64 k := hE 4 (of_decide_eq_true (by kernel_rfl))
          exact good_move (wanted_none rfl) rfl f4
        · intro b w' h hE
          have f18 : b.tmps.getD 18 undef = .slice (some ⟨g, 0, none⟩) M.length vc := h.dep 6 _ 18 (by kernel_rfl) rfl rfl
          have f19 : b.tmps.getD 19 undef = .int .i64 k := h.dep 7 _ 19 (by kernel_rfl) rfl rfl
          exact good_index (wanted_none rfl) rfl f18 f19 (by simp [go_sem, hlt]) rfl
        · intro b w' h hE
          have f20 : b.tmps.getD 20 undef = .pointer (some ⟨g, k * 4, none⟩) := h.dep 8 _ 20 (by kernel_rfl) rfl rfl
          exact good_field (wanted_none rfl) rfl f20 (by simp [go_sem]) rfl
        · intro b w' h hE
          have f21 : b.tmps.getD 21 undef = .pointer (some ⟨g, k * 4 + 2, none⟩) := h.dep 9 _ 21 (by kernel_rfl) rfl rfl
          have c0 := cell_later h.ext q2.out
          have c1 := cell_later h.ext q3.out
          exact good_load (wanted_none rfl) rfl f21 (by simp [go_sem, c0, c1]) rfl
        · intro b w' h hE
          have f17 : b.tmps.getD 17 undef = .slice PA pl pc := h.dep 5 _ 17 (by kernel_rfl) rfl rfl
          have g17 : b.tmps[17]?.getD undef = .slice PA pl pc := by rw [← Array.getD_eq_getD_getElem?]; exact f17
          have f22 : b.tmps.getD 22 undef = .agg #[.int .i64 x1, .int .i64 x2] := h.dep 10 _ 22 (by kernel_rfl) rfl rfl
          have g22 : b.tmps[22]?.getD undef = .agg #[.int .i64 x1, .int .i64 x2] := by rw [← Array.getD_eq_getD_getElem?]; exact f22
          exact good_run (wanted_none rfl) (by simp [execOp, Act.eval, go_sem, g17, g22, Sem.run_bind, Sem.run_pure, Result.andThen_ok]) rfl
        · intro b w' h hE
          have f23 : b.tmps.getD 23 undef = .agg #[.slice PA pl pc, .int .i64 x1, .int .i64 x2] := h.dep 11 _ 23 (by kernel_rfl) rfl rfl
          have g23 : b.tmps[23]?.getD undef = .agg #[.slice PA pl pc, .int .i64 x1, .int .i64 x2] := by rw [← Array.getD_eq_getD_getElem?]; exact f23
          have this := buildPc PA pl pc xr (x1, x2) w'
          refine good_grow (w' := w'.alloc (.cells (pcO (.slice PA pl pc) (xr, (x1, x2))).toArray 95)) (v := .slice (some ⟨w'.heap.size, 0, none⟩) 1 1) (wanted_none rfl) ?_ (pcO_new _ _ w') ((Ext.refl _).alloc _)
          simp [execOp, Act.eval, g23, this, Sem.run_bind, Sem.run_pure, Result.andThen_ok]; rfl
      · intro b w2 hX2 hd hz he' hf
        have e12 : b.tmps.getD 12 undef = .slice C N.length cc := hf 0 _ 12 (by omega) rfl rfl
        have e13 : b.tmps.getD 13 undef = .slice (some ⟨g, 0, none⟩) M.length vc := hf 1 _ 13 (by omega) rfl rfl
        have e14 : b.tmps.getD 14 undef = .int .i64 k := hf 2 _ 14 (by omega) rfl rfl
        have e15 : b.tmps.getD 15 undef = .pointer (some ⟨g, k * 4, none⟩) := hf 3 _ 15 (by omega) rfl rfl
        have e16 : b.tmps.getD 16 undef = .pointer (some ⟨g, k * 4 + 1, none⟩) := hf 4 _ 16 (by omega) rfl rfl
        have e17 : b.tmps.getD 17 undef = .slice PA pl pc := hf 5 _ 17 (by omega) rfl rfl
        have e18 : b.tmps.getD 18 undef = .slice (some ⟨g, 0, none⟩) M.length vc := hf 6 _ 18 (by omega) rfl rfl
        have e19 : b.tmps.getD 19 undef = .int .i64 k := hf 7 _ 19 (by omega) rfl rfl
        have e20 : b.tmps.getD 20 undef = .pointer (some ⟨g, k * 4, none⟩) := hf 8 _ 20 (by omega) rfl rfl
        have e21 : b.tmps.getD 21 undef = .pointer (some ⟨g, k * 4 + 2, none⟩) := hf 9 _ 21 (by omega) rfl rfl
        have e22 : b.tmps.getD 22 undef = .agg #[.int .i64 x1, .int .i64 x2] := hf 10 _ 22 (by omega) rfl rfl
        have e23 : b.tmps.getD 23 undef = .agg #[.slice PA pl pc, .int .i64 x1, .int .i64 x2] := hf 11 _ 23 (by omega) rfl rfl
        have f24 : Sl w2 [] 3 (b.tmps.getD 24 undef) 1 (pcO (.slice PA pl pc) (xr, (x1, x2))) := hf 12 _ 24 (by omega) rfl rfl
        have e := frame_puts hd hz he'
        obtain ⟨X, hXx⟩ : ∃ X : Nat → Value, ∀ d, b.tmps.getD d undef = X d := ⟨_, fun _ => rfl⟩
        rw [hXx] at e12 e13 e14 e15 e16 e17 e18 e19 e20 e21 e22 e23 f24
        obtain ⟨A24, c24, q24⟩ := sl_form f24
        rw [show dstsOf _ = [12, 13, 14, 15, 16, 17, 18, 19, 20, 21, 22, 23, 24] from rfl] at e
        simp only [List.foldl_cons, List.foldl_nil, hXx, Act.put, List.setIfInBounds_toArray, List.set_cons_succ, List.set_cons_zero] at e
        rw [e12, e13, e14, e15, e16, e17, e18, e19, e20, e21, e22, e23, q24] at e
        rw [q24] at f24
        replace f24 := hide f24
        clear hf he' hz hd hXx e12 e13 e14 e15 e16 e17 e18 e19 e20 e21 e22 e23 q24
        subst e
        have hzw := hX2.size
        simp only [List.drop_succ_cons, List.drop_zero]
        have hN2 := hN.out.ext hX2
        have hr2 := hide (hrow.out.ext hX2)
        have hbw : w.heap.size ≤ w2.heap.size := by omega
        go_wp2_with (at_builtin; (refine wpl_app tPcF rfl (.tmp 12) (.tmp 24) rfl rfl hN2.1 rfl (src_sl Tryz.underlying50 f24.out pcO_one (by omega)) (by unfold maxLen; omega) (by omega) hbw ?_; intro v8 w8 ho8 hg8 hd8; replace hg8 : World.grownBy _ w8 (Value.slice C N.length cc).ownBlock := hg8; replace ho8 := hide ho8; replace hg8 := hide hg8; clear hd8))
        go_roundg (M.length - (k + 1))
        case measure => omega
        case rel =>
          refine ⟨k + 1, N ++ [(.slice PA pl pc, (xr, (x1, x2)))], by go_num, by omega, by rw [List.length_append, List.length_singleton, hNl.out], ?_, ?_, ?_⟩
          · exact OwnX.app (by decide) hN2 (M := [(.slice PA pl pc, (xr, (x1, x2)))]) (by simpa using ho8.out) hg8.out (fun q hq => by rw [List.mem_singleton.1 hq]; exact hr2.out)
          · show _ = _
            rw [show eds (N ++ [(Value.slice PA pl pc, (xr, (x1, x2)))]) = eds N ++ [(xr, (x1, x2))] by simp [eds]]
            exact hnx.out
          · exact ext_grown (hX.out.trans hX2) hg8.out (fun q hq => (hN2.1.lt q hq).1)
    · have hke : k = M.length := by omega
      have hge : (M.length : Int) ≤ k := by omega
      rw [hke, List.take_length] at hNe
      replace hke := hide hke
      replace hNl := hide hNl
      go_wp2_with fail
      go_returns
      exact ⟨_, N, rfl, hN.out, hNe.out, hX.out⟩
end Go.Proofs.YtiknkcadbaeknaaGreat
set_option linter.unusedVariables false
set_option linter.unusedSimpArgs false
namespace Go.Proofs.YtiknkcadbaeknaaGreat
open Go.RowKit
attribute [local go_sem] GW.cell GW.frozen In.eq_true In.le_true In.ne In.ne' In.ne_add In.ne_add' In.lt_add Upto.le_true Upto.le_add Upto.lt_add
end Go.Proofs.YtiknkcadbaeknaaGreat
set_option linter.unusedVariables false
set_option linter.unusedSimpArgs false
namespace Go.Proofs.YtiknkcadbaeknaaGreat
open Go.RowKit
attribute [local go_sem] GW.cell GW.frozen In.eq_true In.le_true In.ne In.ne' In.ne_add In.ne_add' In.lt_add Upto.le_true Upto.le_add Upto.lt_add
theorem mayPc_before (q : List Vl) (b : Int) : mayPc (q, (-1, b)) = (mayR q && isTickB b) := by
  unfold mayPc smayB fbB
  have h1 : isTickB (-1) = false := by decide
  have h2 : decide ((-1 : Int) = -1 ∧ 0 ≤ b ∧ b ≤ 1125899906842624) = isTickB b := by
    unfold isTickB
    by_cases h3 : 0 ≤ b <;> by_cases h4 : b ≤ 1125899906842624 <;> simp [h3, h4]
  show (mayR q && (isTickB (-1) && isTickB b && decide ((-1 : Int) < b) || decide ((-1 : Int) = -1 ∧ 0 ≤ b ∧ b ≤ 1125899906842624))) = _
  rw [h2, h1, Bool.false_and, Bool.false_and, Bool.false_or]
theorem mayPc_at (q : List Vl) {a : Int} (ha : a ≠ -1) (b : Int) : mayPc (q, (a, b)) = (mayR q && smayB a b) := by
  unfold mayPc fbB
  have h2 : decide (a = -1 ∧ 0 ≤ b ∧ b ≤ 1125899906842624) = false := by rw [decide_eq_false_iff_not]; exact fun h => ha h.1
  simp only [h2, Bool.or_false]
set_option maxHeartbeats 4000000 in
theorem refPcMay_c (q : List Vl) (j : Jp) (v : Value) (w : World) (h : Rw w [] v q) : Calls Tryz.prog 162 #[em v j] w fun e w' => e = .returned (.bool (mayPc (q, j))) ∧ Ext w w' := by
  obtain ⟨a, b⟩ := j
  have h1 := hide (fun w' (hX : Ext w w') => refRowMay_c q v w' (Sl.ext h hX))
  have h2 := hide (fun w => srefMay_c a b w)
  have h3 := hide (fun (w : World) => (tick_c b w).mono (R' := fun e w' => e = .returned (.bool (isTickB b)) ∧ Ext w w') fun e w' ⟨k1, k2⟩ => ⟨k1, k2 ▸ Ext.refl w⟩)
  obtain ⟨A, cap, rfl⟩ := rw_val h
  have hX0 := hide ((Ext.refl w).alloc (.cells #[.slice A q.length cap, .int .i64 a, .int .i64 b] 95))
  clear h
  by_cases ha : a = -1
  · subst ha
    rw [mayPc_before]
    generalize mayR q = m1 at *
    generalize isTickB b = m2 at *
    clear h2
    cases m1
    · go_enter Tryz.func162, Tryz.ntmps162
      go_wp2_with (go_at_call 121; (with_reducible refine seq_gw (h1.out _ hX0.out) ?_); intro g)
      go_returns
      exact ⟨by first | rfl | simp, hX0.out.trans g.grown⟩
    · go_enter Tryz.func162, Tryz.ntmps162
      go_wp2_with (first | (go_at_call 121; (with_reducible refine seq_gw (h1.out _ hX0.out) ?_); intro g) | (go_at_call 122; (with_reducible refine seq_gw' (h3.out _) ?_); intro g2))
      go_returns
      exact ⟨by first | rfl | simp, hX0.out.trans g2.grown⟩
  · rw [mayPc_at q ha]
    generalize mayR q = m1 at *
    generalize smayB a b = m2 at *
    have hb : (a == -1) = false := by rw [beq_eq_false_iff_ne]; exact ha
    replace ha := hide ha
    clear h3
    cases m1
    · go_enter Tryz.func162, Tryz.ntmps162
      go_wp2_with (go_at_call 121; (with_reducible refine seq_gw (h1.out _ hX0.out) ?_); intro g)
      go_returns
      exact ⟨by first | rfl | simp, hX0.out.trans g.grown⟩
    · go_enter Tryz.func162, Tryz.ntmps162
      go_wp2_with (first | (go_at_call 121; (with_reducible refine seq_gw (h1.out _ hX0.out) ?_); intro g) | (go_at_call 123; (with_reducible refine seq_gw' (h2.out _) ?_); intro g2))
      go_returns
      exact ⟨by first | rfl | simp, hX0.out.trans g2.grown⟩
end Go.Proofs.YtiknkcadbaeknaaGreat
