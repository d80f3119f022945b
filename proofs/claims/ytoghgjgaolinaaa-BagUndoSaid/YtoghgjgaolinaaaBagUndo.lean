/-
  Layer 12 (bag), 12.1, 12.5: for every two lists of edges, what was added to a bag can be taken away again, and all is as it was; with an error nothing has changed. No condition.
-/
import Derived.Test.YtoghgjgaolinaaaBagO
import Derived.Test.YtoghgjgaolinaaaArgI
import Derived.Test.YtoghgjgaolinaaaEdgK
import Derived.Test.YtoghgjgaolinaaaEdgO
import Derived.Test.YtoghgjgaolinaaaStepR
import Derived.Test.YtoghgjgaolinaaaEdgEn
import Derived.WalkKit
import Derived.ProofKit
import Derived.OpenShut
import Derived.ShutString
import Derived.ChangeOld
import Derived.Below
import Derived.Lib.SmallJoins
import Derived.SizedLaws
import Derived.Deep.CondSized
import Derived.JoinedCond
set_option linter.unusedVariables false
set_option linter.unusedSimpArgs false
namespace Go.Proofs.Ytoghgjgaolinaaa.bagUndo
open Go.ChangeShapes Go.WideShapes Go.ChangeAt Go.RowKit Go.Joins
open Go.ChangeMaps (open_string shut_string)
attribute [local go_sem] GW.cell GW.frozen In.eq_true In.le_true In.ne In.ne' In.ne_add In.ne_add' In.lt_add Upto.le_true Upto.le_add Upto.lt_add

def ngV (p : Ve) : Ve := (p.1, p.2.1, (p.2.2.1, -p.2.2.2))
def ngLs (l : List Ed) : List Ed := l.map fun e => (e.1, (e.2.1, -e.2.2))
theorem eds_ng (L : List Ve) : eds (L.map ngV) = ngLs (eds L) := by simp [eds, ngLs, ngV, Function.comp_def]
def oneU (u : Value) (r : List Vl) (j : Jp) : Fact := .st (fun v w => Sl w [] 3 v 1 (ec1 (u, r, j))) (fun _ _ _ h k => Sl.ext h k)
theorem er_ew {w : World} {base : Nat} {S : List Nat} {v : Value} {L : List Ve} (h : OwnEr w base v L) (hs : ∀ b, b ∈ S → b < base) : Ew w S v L :=
  ⟨Sl.own h.1 hs, fun p hp => Sl.less (h.2 p hp) fun k hk => List.mem_append_right _ (List.mem_range.2 (hs k hk))⟩
theorem jmps_ng (l : List Ed) (r : List Vl) : jmps (ngLs l) r = ngL (jmps l r) := by
  unfold jmps ngLs ngL
  induction l with
  | nil => rfl
  | cons e l ih =>
    simp only [List.map_cons, List.filter_cons, List.map_map] at ih ⊢
    split <;> simp_all
theorem ng_mp {l : List Ed} (hl : mayE l = true) : ngLs l = mpR ngOp l := by
  obtain ⟨-, h2, h3⟩ := neg_ok hl
  have hr := mayE_rise hl
  refine ed_ext ?_ (mayE_rise h2) fun r => by rw [jmps_ng, h3 r]
  refine ⟨fun e he => ?_, ?_⟩
  · obtain ⟨x, hx, rfl⟩ := List.mem_map.1 he
    exact hr.1 x hx
  · unfold ngLs
    rw [List.pairwise_map]
    exact hr.2
theorem undo_x {X l : List Ed} (h : baE X (-1) l = 0) (hX : tabE X = true) : baE (neR (X ++ l)) (-1) (ngLs l) = 0 ∧ neR (neR (X ++ l) ++ ngLs l) = X ∧ mayE l = true := by
  have hXm : mayE X = true := by have := hX; unfold tabE at this; exact (Bool.and_eq_true_iff.1 this).1
  unfold baE at h
  split at h
  · rename_i hl
    split at h
    · rename_i hall
      split at h
      · rename_i h0
        have had : adE X l = 0 := by unfold adE; rw [hXm, hl, Bool.true_and, if_pos rfl, h0]
        have hR : adR X l = neR (X ++ l) := by unfold adR; rw [if_pos had]
        obtain ⟨-, k2, k3⟩ := undo_ok had
        obtain ⟨-, n2, -⟩ := neg_ok hl
        rw [hR, ← ng_mp hl] at k2 k3
        rw [← ng_mp hl] at n2
        have hm' := ne_may h0
        have e2 : neE (neR (X ++ l) ++ ngLs l) = 0 := by unfold adE at k2; rwa [hm', n2, Bool.true_and, if_pos rfl] at k2
        have e3 : neR (neR (X ++ l) ++ ngLs l) = X := by
          have hz : adE (neR (X ++ l)) (ngLs l) = 0 := k2
          unfold adR at k3
          rwa [if_pos hz] at k3
        refine ⟨?_, e3, hl⟩
        have hall2 : (ngLs l).all (fun e => !ltP (-1) e.2) = true := by
          unfold ngLs
          rw [List.all_map]
          exact hall
        unfold baE
        rw [if_pos n2, if_pos hall2, if_pos e2, e3, if_pos hX]
      · cases h
    · cases h
  · cases h
theorem in_ng {l : List Ed} (h : edsIn l) : edsIn (ngLs l) := fun e he => by
  obtain ⟨x, hx, rfl⟩ := List.mem_map.1 he
  exact h x hx
set_option maxHeartbeats 8000000 in
set_option maxRecDepth 100000 in
theorem walk (a l2 : List Ve) (ia : edsIn (eds a)) (ib : edsIn (eds l2)) (v1 v2 : Value) (w : World) (ha : Ew w [] v1 a) (hb : Ew w [] v2 l2) : Calls Try.prog 4 #[v1, v2] w fun e w' => e = .returned (.bool true) ∧ Ext w w' := by
  have hae := hide ha
  have hbe := hide hb
  obtain ⟨VA0, acap, rfl, -, -, -⟩ := ew_form ha
  obtain ⟨VB, bcap, rfl, hbc, hbm, hat⟩ := ew_form hb
  unfold maxLen at hbm
  replace hat := hide hat
  clear ha hb
  go_enter Try.func4, Try.ntmps4
  go_wp2_with (go_at_call 7; refine (bagNew_c rowB _).mono ?_; rintro ee w1 ⟨B, mb, rfl, ⟨hB, hmb, hBm, hbg⟩, hX1⟩)
  have hb1 : Bg rowB w1 [B, mb] B mb 0 (-1) [] := ⟨hbg.1, hbg.2.1, by simp⟩
  have hml := hb1.2.1.lt
  refine (bagAdd_c a B mb 0 (-1) [] [] _ _ (hae.out.ext hX1) ia hb1 BagX.nil hBm (by omega)).mono ?_
  rintro ee w2 ⟨rfl, hh⟩
  obtain ⟨T0, X0, n0, hb2, hx2, hn2, hF2⟩ : ∃ T0 X0 n0, Bg rowB w2 [B, mb] B mb n0 (-1) T0 ∧ BagX T0 X0 ∧ n0 ≤ 4096 ∧ Fr [mb] w1 w2 := by
    rcases hh with ⟨-, hX⟩ | ⟨-, T', n', k1, k2, k3, k4⟩
    · exact ⟨[], [], 0, hb1.ext hX, BagX.nil, by omega, Fr.of_ext hX⟩
    · exact ⟨T', _, n', k1, k3, by omega, k4⟩
  generalize baE [] (-1) (eds a) = E0 at *
  have hXw2 : Ext w w2 := ext_fr hX1 hF2 (by intro y hy; simp only [List.mem_singleton] at hy; omega)
  have hz2 := hF2.size
  clear hbg hb1 hh hF2 hX1
  go_wp2_with fail
  refine (bagEdges_c B mb n0 (-1) T0 X0 w2 hb2 hx2).mono ?_
  rintro ee w3 ⟨u3, M3, rfl, hM3, ho3, hX3⟩
  have hwas := er_ew (S := [mb]) ho3 (by simp; omega)
  obtain ⟨A3, c3, rfl⟩ := own_form ho3.1
  have hXw3 : Ext w w3 := hXw2.trans hX3
  clear ho3
  go_wp2_with fail
  refine (bagAdd_c l2 B mb n0 (-1) T0 X0 _ w3 (hbe.out.ext hXw3) ib (hb2.ext hX3) hx2 hBm (by omega)).mono ?_
  rintro ee w4 ⟨rfl, ⟨hne, hX4⟩ | ⟨h0, T1, n1, hb4, hn4, hx4, hF4⟩⟩
  · have hb4 := hide ((hb2.ext hX3).ext hX4)
    have hw4 := hide ((hwas.less (S' := []) (by simp)).ext hX4)
    have hXw4 := hide (hXw3.trans hX4)
    have hEI : (baE X0 (-1) (eds l2) != 0) = true := by simpa using hne
    have hx2' := hide hx2
    generalize baE X0 (-1) (eds l2) = E1 at *
    clear hb2 hX3 hwas hX4 hXw3 hXw2 hx2 hat
    go_wp2_with (first
      | (go_at_call 6; (with_reducible refine seq_gw (bagLive_c _) ?_); intro g5)
      | (go_at_call 12; refine (bagEdges_c B mb n0 (-1) T0 X0 _ (hb4.out.ext g5.grown) hx2'.out).mono ?_; rintro ee w6 ⟨u6, M6, rfl, hM6, ho6, hX6⟩; obtain ⟨A6, c6, rfl⟩ := own_form ho6.1; have ho6' := hide ho6; have hX6' := hide (g5.grown.trans hX6); have hM6' := hide hM6; clear ho6 hX6 hM6)
      | (go_at_call 11; have hsm := refEdgeSame_c ho6'.out.ew (hw4.out.ext hX6'.out); rw [hM6'.out, hM3, decide_eq_true rfl] at hsm; (with_reducible refine seq_gw hsm ?_); intro g7; clear hsm))
    go_returns
    exact ⟨by first | rfl | simp, (hXw4.out.trans hX6'.out).trans g7.grown⟩
  · rw [h0]
    obtain ⟨hu1, hu2, hbl⟩ := undo_x h0 hx2.1
    have hw4 : Ew w4 [mb] (.slice A3 M3.length c3) M3 := hwas.fr hF4 (fun y hy => hy)
    have hXw4 : Ext w w4 := ext_fr hXw3 hF4 (by intro y hy; simp only [List.mem_singleton] at hy; omega)
    have hz4 := hXw4.size
    have hz34 := hF4.size
    have hz3 := hX3.size
    have hnet := hide (fun (x : Ve) (hx : x ∈ l2) => (mayE_doc.1 hbl).2.1 x.2 (List.mem_map.2 ⟨x, hx, rfl⟩))
    have hbl4 : l2.length ≤ 4096 := by have := mayE_len hbl; simpa [eds] using this
    have hlit := hide (World.ownsRow_lit (base := w4.heap.size) (e := 36) (size := 3) w4 #[] 0 (Nat.le_refl _) (by decide) rfl)
    have hb4' := hide hb4
    have hx4' := hide hx4
    have hu := hide (And.intro hu1 hu2)
    have hw4' := hide hw4
    have hXw4' := hide hXw4
    clear hb2 hX3 hwas hXw3 hXw2 hx2 hb4 hx4 hu1 hu2 hw4 hF4 h0 hXw4
    go_wp2_with fail
    go_loopg [8, 9] l2.length (fun gh bv iv wr => ∃ (k : Nat) (N : List Ve), iv = .int .i64 k ∧ k + gh = l2.length ∧ OwnE wr w4.heap.size bv N ∧ N.length ≤ k ∧ Hid (N = (l2.take k).map ngV) ∧ Ext w4 wr)
    case atStart => exact ⟨0, [], rfl, by omega, (by have h := hlit.out; exact h), Nat.le_refl _, rfl, (Ext.refl _).alloc _⟩
    case round =>
      obtain ⟨k, N, rfl, hk, ho, hNk, hN, hX⟩ := hrel
      clear hlit
      have hzX := hX.size
      by_cases hlt : k < l2.length
      · obtain ⟨⟨rv, q, xp, xn⟩, hp⟩ : ∃ p, l2[k]? = some p := ⟨_, List.getElem?_eq_getElem hlt⟩
        obtain ⟨b0, o0, rfl, -, hbl0, c0, c1, c2⟩ := hat.out k _ hp
        have hXr := hXw4'.out.trans hX
        have k0 := cell_later hXr c0
        have k1 := cell_later hXr c1
        have k2 := cell_later hXr c2
        have hbr : b0 < wr.heap.size := block_lt_of_cell k0
        have hok := hnet.out _ (List.mem_of_getElem? hp)
        have hn := okJ_iff.1 hok.2
        have hrw : Rw w [] rv q := hbe.out.2 _ (List.mem_of_getElem? hp)
        obtain ⟨VA, vcap, rfl⟩ := rw_val hrw
        have hnx := hide (show N ++ [(.slice VA q.length vcap, q, (xp, -xn))] = (l2.take (k + 1)).map ngV by rw [List.take_add_one, hp, Option.toList_some, List.map_append, hN.out]; rfl)
        simp only at hn k0 k1 k2
        have hws : IntKind.i64.wrap (-xn) = -xn := by simp [IntKind.wrap, IntKind.bits, IntKind.signed]; omega
        have hltI : (k : Int) < l2.length := by omega
        obtain ⟨C, ccap, rfl⟩ := own_form ho
        replace ho := hide ho
        replace k0 := hide k0
        replace k1 := hide k1
        replace k2 := hide k2
        clear hp c0 c1 c2 hok hrw hXr hN
        go_wp2_with fail
        refine wp_region_list_tail 19 [(.is (.slice C N.length ccap)), (.is (.slice (some ⟨b0, o0, none⟩) l2.length bcap)), (.is (.int .i64 k)), (.is (.pointer (some ⟨b0, o0 + k * 3, none⟩))), (.is (.pointer (some ⟨b0, o0 + k * 3, none⟩))), (.is (.slice VA q.length vcap)), (.is (.slice (some ⟨b0, o0, none⟩) l2.length bcap)), (.is (.int .i64 k)), (.is (.pointer (some ⟨b0, o0 + k * 3, none⟩))), (.is (.pointer (some ⟨b0, o0 + k * 3 + 1, none⟩))), (.is (.int .i64 xp)), (.is (.slice (some ⟨b0, o0, none⟩) l2.length bcap)), (.is (.int .i64 k)), (.is (.pointer (some ⟨b0, o0 + k * 3, none⟩))), (.is (.pointer (some ⟨b0, o0 + k * 3 + 1 + 1, none⟩))), (.is (.int .i64 xn)), (.is (.int .i64 (-xn))), (.is (em (.slice VA q.length vcap) (xp, -xn))), (oneU (.slice VA q.length vcap) q (xp, -xn))] (by kernel_rfl) (by kernel_rfl) (by kernel_rfl) (by kernel_rfl) (by kernel_rfl) (by kernel_rfl) (by kernel_rfl) ?_ ?_
        · refine ⟨?_, ?_, ?_, ?_, ?_, ?_, ?_, ?_, ?_, ?_, ?_, ?_, ?_, ?_, ?_, ?_, ?_, ?_, ?_, trivial⟩
          · intro b w' h hE
            have f8 : b.tmps.getD 8 undef = .slice C N.length ccap := hE 8 (of_decide_eq_true (by kernel_rfl))
            exact good_move (wanted_none rfl) rfl f8
          · intro b w' h hE
            have f1 : b.tmps.getD 1 undef = .slice (some ⟨b0, o0, none⟩) l2.length bcap := hE 1 (of_decide_eq_true (by kernel_rfl))
            exact good_move (wanted_none rfl) rfl f1
          · intro b w' h hE
            have f9 : b.tmps.getD 9 undef = .int .i64 k := hE 9 (of_decide_eq_true (by kernel_rfl))
            exact good_move (wanted_none rfl) rfl f9
          · intro b w' h hE
            have f36 : b.tmps.getD 36 undef = .slice (some ⟨b0, o0, none⟩) l2.length bcap := h.dep 1 _ 36 (by kernel_rfl) rfl rfl
            have f37 : b.tmps.getD 37 undef = .int .i64 k := h.dep 2 _ 37 (by kernel_rfl) rfl rfl
            exact good_index (wanted_none rfl) rfl f36 f37 (by simp [go_sem, hlt]) rfl
          · intro b w' h hE
            have f38 : b.tmps.getD 38 undef = .pointer (some ⟨b0, o0 + k * 3, none⟩) := h.dep 3 _ 38 (by kernel_rfl) rfl rfl
            exact good_field (wanted_none rfl) rfl f38 (by simp [go_sem]) rfl
          · intro b w' h hE
            have f39 : b.tmps.getD 39 undef = .pointer (some ⟨b0, o0 + k * 3, none⟩) := h.dep 4 _ 39 (by kernel_rfl) rfl rfl
            have c0 := cell_later h.ext k0.out
            exact good_load (wanted_none rfl) rfl f39 (by simp [go_sem, c0]) rfl
          · intro b w' h hE
            have f1 : b.tmps.getD 1 undef = .slice (some ⟨b0, o0, none⟩) l2.length bcap := hE 1 (of_decide_eq_true (by kernel_rfl))
            exact good_move (wanted_none rfl) rfl f1
          · intro b w' h hE
            have f9 : b.tmps.getD 9 undef = .int .i64 k := hE 9 (of_decide_eq_true (by kernel_rfl))
            exact good_move (wanted_none rfl) rfl f9
          · intro b w' h hE
            have f41 : b.tmps.getD 41 undef = .slice (some ⟨b0, o0, none⟩) l2.length bcap := h.dep 6 _ 41 (by kernel_rfl) rfl rfl
            have f42 : b.tmps.getD 42 undef = .int .i64 k := h.dep 7 _ 42 (by kernel_rfl) rfl rfl
            exact good_index (wanted_none rfl) rfl f41 f42 (by simp [go_sem, hlt]) rfl
          · intro b w' h hE
            have f43 : b.tmps.getD 43 undef = .pointer (some ⟨b0, o0 + k * 3, none⟩) := h.dep 8 _ 43 (by kernel_rfl) rfl rfl
            exact good_field (wanted_none rfl) rfl f43 (by simp [go_sem]) rfl
          · intro b w' h hE
            have f44 : b.tmps.getD 44 undef = .pointer (some ⟨b0, o0 + k * 3 + 1, none⟩) := h.dep 9 _ 44 (by kernel_rfl) rfl rfl
            have c0 := cell_later h.ext k1.out
            exact good_load (wanted_none rfl) rfl f44 (by simp [go_sem, c0]) rfl
          · intro b w' h hE
            have f1 : b.tmps.getD 1 undef = .slice (some ⟨b0, o0, none⟩) l2.length bcap := hE 1 (of_decide_eq_true (by kernel_rfl))
            exact good_move (wanted_none rfl) rfl f1
          · intro b w' h hE
            have f9 : b.tmps.getD 9 undef = .int .i64 k := hE 9 (of_decide_eq_true (by kernel_rfl))
            exact good_move (wanted_none rfl) rfl f9
          · intro b w' h hE
            have f46 : b.tmps.getD 46 undef = .slice (some ⟨b0, o0, none⟩) l2.length bcap := h.dep 11 _ 46 (by kernel_rfl) rfl rfl
            have f47 : b.tmps.getD 47 undef = .int .i64 k := h.dep 12 _ 47 (by kernel_rfl) rfl rfl
            exact good_index (wanted_none rfl) rfl f46 f47 (by simp [go_sem, hlt]) rfl
          · intro b w' h hE
            have f48 : b.tmps.getD 48 undef = .pointer (some ⟨b0, o0 + k * 3, none⟩) := h.dep 13 _ 48 (by kernel_rfl) rfl rfl
            exact good_field (wanted_none rfl) rfl f48 (by simp [go_sem]) rfl
          · intro b w' h hE
            have f49 : b.tmps.getD 49 undef = .pointer (some ⟨b0, o0 + k * 3 + 1 + 1, none⟩) := h.dep 14 _ 49 (by kernel_rfl) rfl rfl
            have c0 := cell_later h.ext k2.out
            exact good_load (wanted_none rfl) rfl f49 (by simp [go_sem, c0]) rfl
          · intro b w' h hE
            have f50 : b.tmps.getD 50 undef = .int .i64 xn := h.dep 15 _ 50 (by kernel_rfl) rfl rfl
            have g50 : b.tmps[50]?.getD undef = .int .i64 xn := by rw [← Array.getD_eq_getD_getElem?]; exact f50
            skip
            exact good_run (wanted_none rfl) (by simp [execOp, Act.eval, go_sem, g50, Sem.run_bind, Sem.run_pure, Result.andThen_ok, hws]) rfl
          · intro b w' h hE
            have f40 : b.tmps.getD 40 undef = .slice VA q.length vcap := h.dep 5 _ 40 (by kernel_rfl) rfl rfl
            have f45 : b.tmps.getD 45 undef = .int .i64 xp := h.dep 10 _ 45 (by kernel_rfl) rfl rfl
            have f51 : b.tmps.getD 51 undef = .int .i64 (-xn) := h.dep 16 _ 51 (by kernel_rfl) rfl rfl
            have g40 : b.tmps[40]?.getD undef = .slice VA q.length vcap := by rw [← Array.getD_eq_getD_getElem?]; exact f40
            have g45 : b.tmps[45]?.getD undef = .int .i64 xp := by rw [← Array.getD_eq_getD_getElem?]; exact f45
            have g51 : b.tmps[51]?.getD undef = .int .i64 (-xn) := by rw [← Array.getD_eq_getD_getElem?]; exact f51
            exact good_run (wanted_none rfl) (by simp [execOp, Act.eval, go_sem, g40, g45, g51, Sem.run_bind, Sem.run_pure, Result.andThen_ok]) rfl
          · intro b w' h hE
            have f52 : b.tmps.getD 52 undef = em (.slice VA q.length vcap) (xp, -xn) := h.dep 17 _ 52 (by kernel_rfl) rfl rfl
            have g52 : b.tmps[52]?.getD undef = em (.slice VA q.length vcap) (xp, -xn) := by rw [← Array.getD_eq_getD_getElem?]; exact f52
            have := buildE1 VA q.length vcap (xp, -xn) w'
            refine good_grow (w' := w'.alloc (.cells #[.slice VA q.length vcap, .int .i64 xp, .int .i64 (-xn)] 36)) (v := .slice (some ⟨w'.heap.size, 0, none⟩) 1 1) (wanted_none rfl) ?_ (oneE_new (.slice VA q.length vcap) q (xp, -xn) w') ((Ext.refl _).alloc _)
            simp [execOp, Act.eval, g52, this, Sem.run_bind, Sem.run_pure, Result.andThen_ok]
        · intro b w2 hX2 hd hz he' hf
          have e35 : b.tmps.getD 35 undef = .slice C N.length ccap := hf 0 _ 35 (by omega) rfl rfl
          have e36 : b.tmps.getD 36 undef = .slice (some ⟨b0, o0, none⟩) l2.length bcap := hf 1 _ 36 (by omega) rfl rfl
          have e37 : b.tmps.getD 37 undef = .int .i64 k := hf 2 _ 37 (by omega) rfl rfl
          have e38 : b.tmps.getD 38 undef = .pointer (some ⟨b0, o0 + k * 3, none⟩) := hf 3 _ 38 (by omega) rfl rfl
          have e39 : b.tmps.getD 39 undef = .pointer (some ⟨b0, o0 + k * 3, none⟩) := hf 4 _ 39 (by omega) rfl rfl
          have e40 : b.tmps.getD 40 undef = .slice VA q.length vcap := hf 5 _ 40 (by omega) rfl rfl
          have e41 : b.tmps.getD 41 undef = .slice (some ⟨b0, o0, none⟩) l2.length bcap := hf 6 _ 41 (by omega) rfl rfl
          have e42 : b.tmps.getD 42 undef = .int .i64 k := hf 7 _ 42 (by omega) rfl rfl
          have e43 : b.tmps.getD 43 undef = .pointer (some ⟨b0, o0 + k * 3, none⟩) := hf 8 _ 43 (by omega) rfl rfl
          have e44 : b.tmps.getD 44 undef = .pointer (some ⟨b0, o0 + k * 3 + 1, none⟩) := hf 9 _ 44 (by omega) rfl rfl
          have e45 : b.tmps.getD 45 undef = .int .i64 xp := hf 10 _ 45 (by omega) rfl rfl
          have e46 : b.tmps.getD 46 undef = .slice (some ⟨b0, o0, none⟩) l2.length bcap := hf 11 _ 46 (by omega) rfl rfl
          have e47 : b.tmps.getD 47 undef = .int .i64 k := hf 12 _ 47 (by omega) rfl rfl
          have e48 : b.tmps.getD 48 undef = .pointer (some ⟨b0, o0 + k * 3, none⟩) := hf 13 _ 48 (by omega) rfl rfl
          have e49 : b.tmps.getD 49 undef = .pointer (some ⟨b0, o0 + k * 3 + 1 + 1, none⟩) := hf 14 _ 49 (by omega) rfl rfl
          have e50 : b.tmps.getD 50 undef = .int .i64 xn := hf 15 _ 50 (by omega) rfl rfl
          have e51 : b.tmps.getD 51 undef = .int .i64 (-xn) := hf 16 _ 51 (by omega) rfl rfl
          have e52 : b.tmps.getD 52 undef = em (.slice VA q.length vcap) (xp, -xn) := hf 17 _ 52 (by omega) rfl rfl
          have f9 : Sl w2 [] 3 (b.tmps.getD 53 undef) 1 (ec1 (.slice VA q.length vcap, q, (xp, -xn))) := hf 18 _ 53 (by omega) rfl rfl
          have e := frame_puts hd hz he'
          obtain ⟨X, hXx⟩ : ∃ X : Nat → Value, ∀ d, b.tmps.getD d undef = X d := ⟨_, fun _ => rfl⟩
          rw [hXx] at e35 e36 e37 e38 e39 e40 e41 e42 e43 e44 e45 e46 e47 e48 e49 e50 e51 e52 f9
          obtain ⟨A9, c9, q9⟩ := sl_form f9
          rw [show dstsOf _ = [35, 36, 37, 38, 39, 40, 41, 42, 43, 44, 45, 46, 47, 48, 49, 50, 51, 52, 53] from rfl] at e
          simp only [List.foldl_cons, List.foldl_nil, hXx, Act.put, List.setIfInBounds_toArray, List.set_cons_succ, List.set_cons_zero] at e
          rw [e35, e36, e37, e38, e39, e40, e41, e42, e43, e44, e45, e46, e47, e48, e49, e50, e51, e52, q9] at e
          rw [q9] at f9
          replace f9 := hide f9
          clear hf he' hz hd hXx e35 e36 e37 e38 e39 e40 e41 e42 e43 e44 e45 e46 e47 e48 e49 e50 e51 e52 q9
          subst e
          have hzw := hX2.size
          simp only [List.drop_succ_cons, List.drop_zero]
          go_wp2_with (at_builtin; (refine wpl_app tEdg rfl (.tmp 35) (.tmp 53) rfl rfl (own_ext ho.out hX2) rfl (src_sl Try.underlying22 f9.out (ec1_one rfl) (by omega)) (by unfold maxLen; omega) (by omega) (by omega) ?_; intro v8 w8 ho8 hg8 _))
          go_roundg (l2.length - (k + 1))
          case measure => omega
          case rel =>
            exact ⟨k + 1, N ++ [(.slice VA q.length vcap, q, (xp, -xn))], by go_num, by omega, own_appE (M := [(.slice VA q.length vcap, q, (xp, -xn))]) (by simpa [ec] using ho8), by rw [List.length_append, List.length_singleton]; omega, hnx, ext_grown (hX.trans hX2) hg8 (fun y hy => (ho.out.lt y hy).1)⟩
      · have hge : (l2.length : Int) ≤ k := by omega
        have hNe := hN.out
        rw [List.take_of_length_le (by omega)] at hNe
        subst hNe
        clear hN
        obtain ⟨C, ccap, hC⟩ := own_form ho
        subst hC
        have hEw := hide (show Ew wr [] (.slice C (l2.map ngV).length ccap) (l2.map ngV) from ⟨Sl.own ho (by simp), fun p hp => by
          obtain ⟨x, hx, rfl⟩ := List.mem_map.1 hp
          exact Sl.ext (hbe.out.2 x hx) (hXw4'.out.trans hX)⟩)
        have hin := in_ng ib
        rw [← eds_ng] at hin hu
        have hXw := hide (hXw4'.out.trans hX)
        have hwr := hide (hw4'.out.ext hX)
        have hbr := hide (hb4'.out.ext hX)
        clear ho hX hat hk
        go_wp2_with (go_at_call 6; (with_reducible refine seq_gw (bagLive_c _) ?_); intro g5)
        have hadd := bagAdd_c (l2.map ngV) B mb n1 (-1) T1 _ _ _ (hEw.out.ext g5.grown) hin (hbr.out.ext g5.grown) hx4'.out hBm (by omega)
        rw [hu.out.1, hu.out.2, List.length_map] at hadd
        refine hadd.mono ?_
        clear hadd
        rintro ee w7 ⟨rfl, ⟨h, -⟩ | ⟨-, T2, n2, hb7, hn7, hx7, hF7⟩⟩
        · exact absurd rfl h
        go_wp2_with fail
        refine (bagEdges_c B mb n2 (-1) T2 X0 _ hb7 hx7).mono ?_
        rintro ee w8 ⟨u8, M8, rfl, hM8, ho8, hX8⟩
        obtain ⟨A8, c8, rfl⟩ := own_form ho8.1
        have hsm := refEdgeSame_c ho8.ew ((((hwr.out.ext g5.grown).fr hF7 (fun y hy => hy)).less (S' := []) (by simp)).ext hX8)
        rw [hM8, hM3, decide_eq_true rfl] at hsm
        have hXfin := hide ((ext_fr (hXw.out.trans g5.grown) hF7 (by intro y hy; simp only [List.mem_singleton] at hy; omega)).trans hX8)
        clear ho8 hX8 hb7 hx7 hF7 hM8 hbr hwr hEw hin
        go_wp2_with (go_at_call 11; ((with_reducible refine seq_gw hsm ?_); intro g9; clear hsm))
        go_returns
        exact ⟨by first | rfl | simp, hXfin.out.trans g9.grown⟩

theorem own : ownKnob Try.prog.godebug = none := by kernel_rfl
theorem laidOut : laidOutB Try.prog = true := by kernel_rfl
set_option maxRecDepth 100000 in
theorem lifted (os : Os) (started : os.Started) (H : Type) (enc : TypeId × Value → H) :
    ReturnsInHanded {} Try.checked os 4 .any (Rows.bagUndoSpec.pre6 enc Try.prog Try.f4 Rows.bagUndoRow.domain false) (Rows.bagUndoSpec.post enc Try.prog Try.f4 false true false false) := by
  refine returnsInHanded_of_change_sized (C := Try.checked) own started (by kernel_rfl) Try.func4
    (ChangeSpec.witness6 (enc := enc) (C := Try.checked) false ⟨#[], #[.slice none 0 0, .slice none 0 0], []⟩ 8 (by kernel_rfl) (by kernel_rfl) (by kernel_rfl) (by kernel_rfl)) ?_
  intro W base args ds gs before hval0 hW hcnd hsz0 _
  have hsz : (DataW.weightsEach Try.prog (Try.f4.params.toList ++ Rows.bagUndoSpec.plain.varTypes Try.prog) (ds ++ gs)).all (· ≤ reachBytes) = true := hsz0
  clear hsz0
  have hval : ∀ (j : Nat) t v, Try.f4.params[j]? = some t → args[j]? = some v → Value.okWide Try.prog W .any base t v := hval0
  have hW' := hW
  obtain ⟨p, q, hA0, hV, rfl, hfz, hnd⟩ := hW
  have hA : DataW.TrodAll enc Try.prog W 0 (fun _ => true) true Try.f4.params.toList args.toList ds p := hA0
  rw [Try.params4] at hA hval hsz
  obtain ⟨v0, vs0, d0, ds0, p0, q0, hargs, rfl, rfl, h0, r0⟩ := trodAll_cons hA
  obtain ⟨v1, vs1, d1, ds1, p1, q1, rfl, rfl, rfl, h1, r1⟩ := trodAll_cons r0
  obtain ⟨rfl, rfl, rfl⟩ := trodAll_nil r1
  obtain rfl : args = #[v0, v1] := by cases args; simp_all
  obtain ⟨rfl, rfl⟩ := trodVars_none hV
  have k0 := h0
  have lt0 : ∀ x ∈ p0, x.block < W.heap.size := by obtain ⟨m, hm⟩ := k0; exact DataW.trod_lt m _ _ _ hm
  obtain ⟨A0, n0, c0, rfl⟩ := okWide_slice Try.underlying22 (hval 0 22 v0 rfl rfl)
  have ⟨m0, hm0⟩ := h0
  obtain ⟨a, la, ha, qa⟩ := open_edgesI Try.underlying22 Try.underlying36 (by kernel_rfl) rfl rfl rfl (by kernel_rfl) (by kernel_rfl) (by kernel_rfl) Try.underlying34 Try.underlying3 Try.underlying3 Try.underlying64 (by kernel_rfl) rfl rfl rfl (by kernel_rfl) (by kernel_rfl) (by kernel_rfl) Try.underlying62 Try.underlying3 Try.underlying9 hm0
  have za : a.length * 40 ≤ 140737488351232 := by rw [la]; exact sized_elems hsz (j := 0) (t := 22) (e := 36) rfl rfl Try.underlying22 (by kernel_rfl)
  have k1 := h1
  have lt1 : ∀ x ∈ p1, x.block < W.heap.size := by obtain ⟨m, hm⟩ := k1; exact DataW.trod_lt m _ _ _ hm
  obtain ⟨A1, n1, c1, rfl⟩ := okWide_slice Try.underlying22 (hval 1 22 v1 rfl rfl)
  have ⟨m1, hm1⟩ := h1
  obtain ⟨b, lb, hb, qb⟩ := open_edgesI Try.underlying22 Try.underlying36 (by kernel_rfl) rfl rfl rfl (by kernel_rfl) (by kernel_rfl) (by kernel_rfl) Try.underlying34 Try.underlying3 Try.underlying3 Try.underlying64 (by kernel_rfl) rfl rfl rfl (by kernel_rfl) (by kernel_rfl) (by kernel_rfl) Try.underlying62 Try.underlying3 Try.underlying9 hm1
  have zb : b.length * 40 ≤ 140737488351232 := by rw [lb]; exact sized_elems hsz (j := 1) (t := 22) (e := 36) rfl rfl Try.underlying22 (by kernel_rfl)
  clear hA0 hval0
  refine (walk a b qa qb _ _ W ha hb).mono fun e W' ⟨he, bel⟩ => ?_
  subst he
  exact ⟨_, rfl, _, _, _, [], _, [], hW', trodAll_mk1 (shut_bool Try.underlying4 _), (trodAll_cons_mk (Below.trod laidOut (by kernel_rfl) (of_decide_eq_true (by kernel_rfl)) k0 bel lt0) (trodAll_cons_mk (Below.trod laidOut (by kernel_rfl) (of_decide_eq_true (by kernel_rfl)) k1 bel lt1) trodAll_mk0)), rfl, bel.frame _, fun h => by cases h⟩

theorem over : Rows.bagUndoRow.holds Try.pinned (OpenSpec.ofChange Rows.bagUndoSpec) :=
  OpenClaim.holds_of_wide 4 Try.f4 rfl rfl rfl rfl rfl rfl rfl ⟨rfl, rfl, rfl, rfl, rfl⟩ rfl rfl rfl rfl rfl (by kernel_rfl) Try.func4 (by kernel_rfl)
    (of_decide_eq_true (by kernel_rfl)) (by unfold Func.isWrapper; first | (rw [if_pos (by decide +kernel)]; kernel_rfl) | (rw [if_neg (by decide +kernel)]; exact ⟨rfl, rfl⟩))
    (fun os started H enc _ => lifted os started H enc)

theorem bagUndo_holds : Rows.BagUndoSaid := over
end Go.Proofs.Ytoghgjgaolinaaa.bagUndo
