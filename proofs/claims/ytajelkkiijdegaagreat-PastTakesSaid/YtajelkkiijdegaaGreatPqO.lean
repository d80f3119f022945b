/-
  A helper of ours: no claim of its own. Layer 14 (past): the events that are known, by the document.
-/
import Derived.Test.YtajelkkiijdegaaGreatPqN
import Derived.Test.YtajelkkiijdegaaGreatPqB
set_option linter.unusedVariables false
set_option linter.unusedSimpArgs false
namespace Go.Proofs.YtajelkkiijdegaaGreat
open Go.RowKit
attribute [local go_sem] GW.cell GW.frozen In.eq_true In.le_true In.ne In.ne' In.ne_add In.ne_add' In.lt_add Upto.le_true Upto.le_add Upto.lt_add
/-- The changes that the known events are, in the order in which they were taken. -/
def heldE (k : Nat) (e : Ev) : Ch := (k + 1, e.1.2, (0, 0), e.2.1)
def heldD (c : Int) : Nat → List Ev → List Ch
  | _, [] => []
  | k, e :: l => (if knwB c e then [heldE k e] else []) ++ heldD c (k + 1) l
theorem heldD_app (c : Int) : ∀ (a b : List Ev) (k : Nat), heldD c k (a ++ b) = heldD c k a ++ heldD c (k + a.length) b
  | [], b, k => by simp [heldD]
  | e :: a, b, k => by rw [List.cons_append, heldD, heldD, heldD_app c a b (k + 1), List.append_assoc, List.length_cons, show k + 1 + a.length = k + (a.length + 1) by omega]
theorem heldD_take {c : Int} {l : List Ev} {k : Nat} {e : Ev} (h : l[k]? = some e) : heldD c 0 (l.take (k + 1)) = heldD c 0 (l.take k) ++ (if knwB c e then [heldE k e] else []) := by
  have hk : k < l.length := (List.getElem?_eq_some_iff.1 h).1
  rw [List.take_add_one, h, heldD_app, List.length_take, show 0 + min k l.length = k by omega]
  simp [heldD]
theorem heldD_len (c : Int) : ∀ (l : List Ev) (k : Nat), (heldD c k l).length ≤ l.length
  | [], _ => by simp [heldD]
  | e :: l, k => by
    have := heldD_len c l (k + 1)
    rw [heldD, List.length_append, List.length_cons]
    split <;> simp <;> omega
set_option maxHeartbeats 16000000 in
set_option maxRecDepth 100000 in
theorem docHeld_c (base r : Nat) (sv : Value) (S : StD) (ev gv : Value) (L : List Lv) (w : World) (h : Sd w base r sv S ev gv L) (hn : L.length ≤ 8192) : Calls Tryz.prog 17 #[.pointer (some ⟨r, 0, none⟩)] w fun e w' => ∃ (v : Value) (M : List (Value × Ch)), e = .returned v ∧ OwnCh w' w.heap.size v M ∧ M.map Prod.snd = heldD S.1 0 S.2 ∧ Ext w w' := by
  obtain ⟨A, cap, rfl⟩ := h.own.form
  obtain ⟨A2, cap2, rfl⟩ := own_form h.gone
  have c0 := hide (h.ob.cell 1 rfl)
  have c1 := hide (h.ob.cell 2 rfl)
  have c2 := hide (h.ob.cell 3 rfl)
  have hrl := h.ob.lt
  haveI : In r w := ⟨hrl⟩
  have hSL : S.2.length = L.length := by rw [← h.evs, List.length_map]
  replace h := hide h
  have hown0 : OwnCh (w.alloc (Obj.cells #[] 39)) w.heap.size (.slice (some ⟨w.heap.size, 0, none⟩) 0 0) [] := ⟨World.ownsRow_made w #[] 0 (Nat.le_refl _) (Nat.zero_le _) rfl, by simp⟩
  replace hown0 := hide hown0
  have c0' := c0.out
  have c1' := c1.out
  have c2' := c2.out
  go_enter Tryz.func17, Tryz.ntmps17
  go_wp2_with fail
  clear c0' c1' c2'
  obtain ⟨bx, ebx⟩ : ∃ bx, Hid (bx = w.heap.size + 1) := ⟨_, rfl⟩
  rw [← ebx.out]
  go_loopg [3, 5] L.length (fun gh lv iv wr => ∃ (k : Nat) (M : List (Value × Ch)), iv = .int .i64 k ∧ k + gh = L.length ∧ Hid (OwnCh wr w.heap.size lv M) ∧ Hid (M.map Prod.snd = heldD S.1 0 (S.2.take k)) ∧ Hid (Ob wr bx 49 [.int .i64 S.1, .slice A L.length cap, .slice A2 L.length cap2]) ∧ Hid (Ext w wr))
  case atStart => exact ⟨0, [], rfl, by omega, hide (hown0.out.ext ((Ext.refl _).alloc _)), by show _ = _; simp [heldD], hide (by have := Ob.new (w.alloc (Obj.cells #[] 39)) 49 [.int .i64 S.1, .slice A L.length cap, .slice A2 L.length cap2]; rw [ebx.out]; simpa [World.size_alloc] using this), ((Ext.refl w).alloc _).alloc _⟩
  case round =>
    obtain ⟨k, M, rfl, hk, hM, hMs, hOb, hXk⟩ := hrel
    have hMl : M.length ≤ L.length := by
      have h9 := congrArg List.length hMs.out
      have h8 := heldD_len S.1 (S.2.take k) 0
      rw [List.length_take] at h8
      rw [List.length_map] at h9; omega
    obtain ⟨MA, mc, eM⟩ := own_form hM.out.1
    subst eM
    have hbw0 : w.heap.size ≤ wr.heap.size := hXk.out.size
    have b0 := hide (hOb.out.cell 0 rfl)
    have b1 := hide (hOb.out.cell 1 rfl)
    have b2 := hide (hOb.out.cell 2 rfl)
    have bxl := hOb.out.lt
    haveI : In bx wr := ⟨bxl⟩
    by_cases hlt2 : k < L.length
    · have hltI : (k : Int) < L.length := by omega
      have hk0 : (0 : Int) ≤ k := by omega
      have hk1 := hide (show RowKit.wrap64 ((k : Int) + 1) = (k : Int) + 1 by unfold RowKit.wrap64; omega)
      obtain ⟨p, hp⟩ : ∃ p, L[k]? = some p := ⟨_, List.getElem?_eq_getElem hlt2⟩
      have hro := hide ((h.out.own.2 p (List.mem_of_getElem? hp)).ext hXk.out)
      obtain ⟨g, cap', g2, cap2', PA, pc, e1, e2, hgl, hgl2, e3, q0, q1, q2, q3, q4⟩ := (h.out.ext hXk.out).at hp
      cases e1; cases e2
      haveI : In g wr := ⟨hgl⟩
      haveI : In g2 wr := ⟨hgl2⟩
      have hep : S.2[k]? = some p.2 := by rw [← h.out.evs, List.getElem?_map, hp]; rfl
      have hR2 := hide (heldD_take (c := S.1) hep)
      obtain ⟨pv, ⟨pi, pr⟩, ⟨p1, p2⟩, pg⟩ := p
      simp only at q0 q1 q2 q3 q4 hR2 e3 hro
      subst e3
      obtain ⟨S1, S2⟩ := S
      simp only at *
      clear hp hep q0
      replace q1 := hide q1
      replace q2 := hide q2
      replace q3 := hide q3
      replace q4 := hide q4
      have q3' := q3.out
      have q4' := q4.out
      have b0' := b0.out
      have b1' := b1.out
      have b2' := b2.out
      cases pg
      · by_cases hc : S1 < p2
        · have dc : decide (S1 < p2) = true := decide_eq_true hc
          have hb : knwB S1 ((pi, pr), (p1, p2), false) = true := by unfold knwB; simp [hc]
          rw [hb, if_pos rfl] at hR2
          go_wp2_with fail
          refine wp_region_gw (by kernel_rfl) (by kernel_rfl) ?_
          repeat (go_big_quiet_step (fail))
          refine wpQuiet_nil ?_
          intro g5
          go_wp2_with fail
          have eg : Ext wr g5.val := g5.grown
          replace hM := hide (hM.out.ext eg)
          replace hOb := hide (hOb.out.ext eg)
          replace hro := hide (hro.out.ext eg)
          replace hXk := hide (hXk.out.trans eg)
          replace b1 := hide (cell_later eg b1.out)
          replace q1 := hide (cell_later eg q1.out)
          replace q2 := hide (cell_later eg q2.out)
          replace q3 := hide (cell_later eg q3.out)
          replace hbw0 : w.heap.size ≤ g5.val.heap.size := hXk.out.size
          clear eg
          refine wp_region_loose_tail 15 [(.is ((.slice MA M.length mc))), (.is ((.int .i64 k))), (.is ((.int .i64 ((k : Int) + 1)))), (.is ((.pointer (some ⟨bx, 1, none⟩)))), (.is ((.slice (some ⟨g, 0, none⟩) L.length cap))), (.is ((.int .i64 k))), (.is ((.pointer (some ⟨g, k * 4, none⟩)))), (.is ((.pointer (some ⟨g, k * 4 + 1, none⟩)))), (.is ((.slice PA pr.length pc))), (.is ((.pointer (some ⟨bx, 1, none⟩)))), (.is ((.slice (some ⟨g, 0, none⟩) L.length cap))), (.is ((.int .i64 k))), (.is ((.pointer (some ⟨g, k * 4, none⟩)))), (.is ((.pointer (some ⟨g, k * 4 + 2, none⟩)))), (.is ((.agg #[.int .i64 p1, .int .i64 p2])))] (by kernel_rfl) (by kernel_rfl) (by kernel_rfl) (by kernel_rfl) (by kernel_rfl) (by kernel_rfl) (by kernel_rfl) (by kernel_rfl) (by kernel_rfl) ?_ ?_
          · refine ⟨?_, ?_, ?_, ?_, ?_, ?_, ?_, ?_, ?_, ?_, ?_, ?_, ?_, ?_, ?_, trivial⟩
            · intro b w' h hE
              have f3 : b.tmps.getD 3 undef = (.slice MA M.length mc) := hE 3 (of_decide_eq_true (by kernel_rfl))
              exact good_move (wanted_none rfl) rfl f3
            · intro b w' h hE
              have f5 : b.tmps.getD 5 undef = (.int .i64 k) := hE 5 (of_decide_eq_true (by kernel_rfl))
              exact good_move (wanted_none rfl) rfl f5
            · intro b w' h hE
              have f37 : b.tmps.getD 37 undef = (.int .i64 k) := h.dep 1 _ 37 (by kernel_rfl) rfl rfl
              exact good_bin (wanted_none rfl) rfl f37 rfl (by rfl) (by simp [go_sem, IntWalk.i64_left, hk1.out]) rfl
            · intro b w' h hE
              have f4 : b.tmps.getD 4 undef = (.pointer (some ⟨bx, 0, none⟩)) := hE 4 (of_decide_eq_true (by kernel_rfl))
              exact good_field (wanted_none rfl) rfl f4 (by simp [go_sem]) rfl
            · intro b w' h hE
              have f39 : b.tmps.getD 39 undef = (.pointer (some ⟨bx, 1, none⟩)) := h.dep 3 _ 39 (by kernel_rfl) rfl rfl
              have c0 := cell_later h.ext b1.out
              exact good_load (wanted_none rfl) rfl f39 (by simp [go_sem, c0]) rfl
            · intro b w' h hE
              have f5 : b.tmps.getD 5 undef = (.int .i64 k) := hE 5 (of_decide_eq_true (by kernel_rfl))
              exact good_move (wanted_none rfl) rfl f5
            · intro b w' h hE
              have f40 : b.tmps.getD 40 undef = (.slice (some ⟨g, 0, none⟩) L.length cap) := h.dep 4 _ 40 (by kernel_rfl) rfl rfl
              have f41 : b.tmps.getD 41 undef = (.int .i64 k) := h.dep 5 _ 41 (by kernel_rfl) rfl rfl
              exact good_index (wanted_none rfl) rfl f40 f41 (by simp [go_sem, hlt2, hltI]) rfl
            · intro b w' h hE
              have f42 : b.tmps.getD 42 undef = (.pointer (some ⟨g, k * 4, none⟩)) := h.dep 6 _ 42 (by kernel_rfl) rfl rfl
              exact good_field (wanted_none rfl) rfl f42 (by simp [go_sem]) rfl
            · intro b w' h hE
              have f43 : b.tmps.getD 43 undef = (.pointer (some ⟨g, k * 4 + 1, none⟩)) := h.dep 7 _ 43 (by kernel_rfl) rfl rfl
              have c0 := cell_later h.ext q1.out
              exact good_load (wanted_none rfl) rfl f43 (by simp [go_sem, c0]) rfl
            · intro b w' h hE
              have f4 : b.tmps.getD 4 undef = (.pointer (some ⟨bx, 0, none⟩)) := hE 4 (of_decide_eq_true (by kernel_rfl))
              exact good_field (wanted_none rfl) rfl f4 (by simp [go_sem]) rfl
            · intro b w' h hE
              have f45 : b.tmps.getD 45 undef = (.pointer (some ⟨bx, 1, none⟩)) := h.dep 9 _ 45 (by kernel_rfl) rfl rfl
              have c0 := cell_later h.ext b1.out
              exact good_load (wanted_none rfl) rfl f45 (by simp [go_sem, c0]) rfl
            · intro b w' h hE
              have f5 : b.tmps.getD 5 undef = (.int .i64 k) := hE 5 (of_decide_eq_true (by kernel_rfl))
              exact good_move (wanted_none rfl) rfl f5
            · intro b w' h hE
              have f46 : b.tmps.getD 46 undef = (.slice (some ⟨g, 0, none⟩) L.length cap) := h.dep 10 _ 46 (by kernel_rfl) rfl rfl
              have f47 : b.tmps.getD 47 undef = (.int .i64 k) := h.dep 11 _ 47 (by kernel_rfl) rfl rfl
              exact good_index (wanted_none rfl) rfl f46 f47 (by simp [go_sem, hlt2, hltI]) rfl
            · intro b w' h hE
              have f48 : b.tmps.getD 48 undef = (.pointer (some ⟨g, k * 4, none⟩)) := h.dep 12 _ 48 (by kernel_rfl) rfl rfl
              exact good_field (wanted_none rfl) rfl f48 (by simp [go_sem]) rfl
            · intro b w' h hE
              have f49 : b.tmps.getD 49 undef = (.pointer (some ⟨g, k * 4 + 2, none⟩)) := h.dep 13 _ 49 (by kernel_rfl) rfl rfl
              have c0 := cell_later h.ext q2.out
              have c1 := cell_later h.ext q3.out
              exact good_load (wanted_none rfl) rfl f49 (by simp [go_sem, c0, c1]) rfl
          · intro b w2 hX2 hd hz he' hf
            have e36 : b.tmps.getD 36 undef = (.slice MA M.length mc) := hf 0 _ 36 (by omega) rfl rfl
            have e37 : b.tmps.getD 37 undef = (.int .i64 k) := hf 1 _ 37 (by omega) rfl rfl
            have e38 : b.tmps.getD 38 undef = (.int .i64 ((k : Int) + 1)) := hf 2 _ 38 (by omega) rfl rfl
            have e39 : b.tmps.getD 39 undef = (.pointer (some ⟨bx, 1, none⟩)) := hf 3 _ 39 (by omega) rfl rfl
            have e40 : b.tmps.getD 40 undef = (.slice (some ⟨g, 0, none⟩) L.length cap) := hf 4 _ 40 (by omega) rfl rfl
            have e41 : b.tmps.getD 41 undef = (.int .i64 k) := hf 5 _ 41 (by omega) rfl rfl
            have e42 : b.tmps.getD 42 undef = (.pointer (some ⟨g, k * 4, none⟩)) := hf 6 _ 42 (by omega) rfl rfl
            have e43 : b.tmps.getD 43 undef = (.pointer (some ⟨g, k * 4 + 1, none⟩)) := hf 7 _ 43 (by omega) rfl rfl
            have e44 : b.tmps.getD 44 undef = (.slice PA pr.length pc) := hf 8 _ 44 (by omega) rfl rfl
            have e45 : b.tmps.getD 45 undef = (.pointer (some ⟨bx, 1, none⟩)) := hf 9 _ 45 (by omega) rfl rfl
            have e46 : b.tmps.getD 46 undef = (.slice (some ⟨g, 0, none⟩) L.length cap) := hf 10 _ 46 (by omega) rfl rfl
            have e47 : b.tmps.getD 47 undef = (.int .i64 k) := hf 11 _ 47 (by omega) rfl rfl
            have e48 : b.tmps.getD 48 undef = (.pointer (some ⟨g, k * 4, none⟩)) := hf 12 _ 48 (by omega) rfl rfl
            have e49 : b.tmps.getD 49 undef = (.pointer (some ⟨g, k * 4 + 2, none⟩)) := hf 13 _ 49 (by omega) rfl rfl
            have e50 : b.tmps.getD 50 undef = (.agg #[.int .i64 p1, .int .i64 p2]) := hf 14 _ 50 (by omega) rfl rfl
            have e := frame_puts hd hz he'
            obtain ⟨X, hXx⟩ : ∃ X : Nat → Value, ∀ d, b.tmps.getD d undef = X d := ⟨_, fun _ => rfl⟩
            rw [hXx] at e36 e37 e38 e39 e40 e41 e42 e43 e44 e45 e46 e47 e48 e49 e50
            rw [show dstsOf _ = [36, 37, 38, 39, 40, 41, 42, 43, 44, 45, 46, 47, 48, 49, 50] from rfl] at e
            simp only [List.foldl_cons, List.foldl_nil, hXx, Act.put, List.setIfInBounds_toArray, List.set_cons_succ, List.set_cons_zero] at e
            rw [e36, e37, e38, e39, e40, e41, e42, e43, e44, e45, e46, e47, e48, e49, e50] at e
            clear hf he' hz hd hXx e36 e37 e38 e39 e40 e41 e42 e43 e44 e45 e46 e47 e48 e49 e50
            subst e
            have hzw := hX2.size
            simp only [List.drop_succ_cons, List.drop_zero]
            have hMx := hM.out.ext hX2
            have hrx := hro.out.ext hX2
            have hOx := hOb.out.ext hX2
            have hbw := Nat.le_trans hbw0 hX2.size
            replace hX2 := hide hX2
            replace hMx := hide hMx
            replace hrx := hide hrx
            replace hOx := hide hOx
            go_wp2_with (at_builtin; (refine wpl_app tChs rfl (.tmp 36) (.tmp 52) rfl rfl (own_ext hMx.out.1 ((Ext.refl w2).alloc (.cells (chO (.slice PA pr.length pc) (k + 1, pr, ((0 : Int), (0 : Int)), (p1, p2))).toArray 39))) rfl (src_sl Tryz.underlying53 (chO_new (.slice PA pr.length pc) (k + 1, pr, ((0 : Int), (0 : Int)), (p1, p2)) w2) chO_one (by omega)) (by unfold maxLen; omega) (by omega) (by simp only [World.size_alloc]; omega) ?_; intro v3 w3 ho3 hg3 hd3; replace hg3 : World.grownBy _ w3 (Value.slice MA M.length mc).ownBlock := hg3; have hN3 := hide ((hMx.out.ext ((Ext.refl w2).alloc (.cells (chO (.slice PA pr.length pc) (k + 1, pr, ((0 : Int), (0 : Int)), (p1, p2))).toArray 39))).app (M := [((.slice PA pr.length pc : Value), ((k + 1, pr, ((0 : Int), (0 : Int)), (p1, p2)) : Ch))]) (by decide) (by simpa using ho3) hg3 (by intro p hp; rw [List.mem_singleton.1 hp]; exact hrx.out.ext ((Ext.refl w2).alloc _))); have hX3 := hide (ext_grown ((hXk.out.trans hX2.out).alloc (.cells (chO (.slice PA pr.length pc) (k + 1, pr, ((0 : Int), (0 : Int)), (p1, p2))).toArray 39)) hg3 (fun b hb => (hM.out.1.lt b hb).1)); have hO3 := hide (((hOx.out.ext ((Ext.refl w2).alloc (.cells (chO (.slice PA pr.length pc) (k + 1, pr, ((0 : Int), (0 : Int)), (p1, p2))).toArray 39)))).grown hg3 (fun e => (Ob.not_own hOx.out hMx.out.1 (by decide)) e.symm)); obtain ⟨A3, c3, q3'⟩ := own_form ho3; subst q3'; clear ho3 hg3 hd3))
            dsimp only [onN, Exit.then, Exit.inBlock]
            go_wp2_with fail
            go_roundg (L.length - (k + 1))
            case measure => omega
            case rel => exact ⟨k + 1, M ++ [((.slice PA pr.length pc : Value), ((k + 1, pr, ((0 : Int), (0 : Int)), (p1, p2)) : Ch))], by go_num, by omega, by first | exact hN3 | (rw [List.length_append] at *; exact hN3), by show _ = _; rw [List.map_append, hMs.out, hR2.out]; rfl, hO3, hX3⟩
        · have dc : decide (S1 < p2) = false := decide_eq_false hc
          have hb : knwB S1 ((pi, pr), (p1, p2), false) = false := by unfold knwB; simp [hc]
          rw [hb, if_neg (by decide), List.append_nil] at hR2
          go_wp2_with fail
          refine wp_region_gw (by kernel_rfl) (by kernel_rfl) ?_
          repeat (go_big_quiet_step (fail))
          refine wpQuiet_nil ?_
          intro g5
          go_wp2_with fail
          go_roundg (L.length - (k + 1))
          case measure => omega
          case rel => exact ⟨k + 1, M, by go_num, by omega, (by have e5 : Ext wr _ := (by first | exact g5.grown | exact Gn.ext); exact hM.out.ext e5), by show _ = _; rw [hMs.out, hR2.out], (by have e5 : Ext wr _ := (by first | exact g5.grown | exact Gn.ext); exact hOb.out.ext e5), hXk.out.trans (by first | exact g5.grown | exact Gn.ext)⟩
      · have hb : knwB S1 ((pi, pr), (p1, p2), true) = false := by unfold knwB; simp
        rw [hb, if_neg (by decide), List.append_nil] at hR2
        go_wp2_with fail
        refine wp_region_gw (by kernel_rfl) (by kernel_rfl) ?_
        repeat (go_big_quiet_step (fail))
        refine wpQuiet_nil ?_
        intro g5
        go_wp2_with fail
        go_roundg (L.length - (k + 1))
        case measure => omega
        case rel => exact ⟨k + 1, M, by go_num, by omega, (by have e5 : Ext wr _ := (by first | exact g5.grown | exact Gn.ext); exact hM.out.ext e5), by show _ = _; rw [hMs.out, hR2.out], (by have e5 : Ext wr _ := (by first | exact g5.grown | exact Gn.ext); exact hOb.out.ext e5), hXk.out.trans (by first | exact g5.grown | exact Gn.ext)⟩
    · obtain rfl : k = L.length := by omega
      have hge : ¬ (L.length : Int) < L.length := by omega
      rw [List.take_of_length_le (by omega)] at hMs
      have b1' := b1.out
      go_wp2_with fail
      go_returns
      exact ⟨_, rfl, M, hM.out, hMs.out, hXk.out⟩
end Go.Proofs.YtajelkkiijdegaaGreat
