/-
  A helper of ours: no claim of its own. Layer 11 (pack): Spans, by the document.
-/
import Derived.Test.YtobmjcehgpmfgaaGreatPakM
import Derived.Test.YtobmjcehgpmfgaaGreatPakQ
import Derived.Test.YtobmjcehgpmfgaaGreatFolT
import Derived.Test.YtobmjcehgpmfgaaGreatFolS
import Derived.Test.YtobmjcehgpmfgaaGreatEdgGs
import Derived.Test.YtobmjcehgpmfgaaGreatFolC
import Derived.Test.YtobmjcehgpmfgaaGreatPakC
set_option linter.unusedVariables false
set_option linter.unusedSimpArgs false
namespace Go.Proofs.YtobmjcehgpmfgaaGreat
open Go.RowKit
attribute [local go_sem] GW.cell GW.frozen In.eq_true In.le_true In.ne In.ne' In.ne_add In.ne_add' In.lt_add Upto.le_true Upto.le_add Upto.lt_add
/-- What is wrong with pieces that are packed; they, packed. -/
def ppE (l : List Ed) : Int := if pkE l = 0 then pcE (pkR l) else pkE l
def ppR (l : List Ed) : List Ed := if pkE l = 0 then pcR (pkR l) else []
set_option maxHeartbeats 4000000 in
set_option maxRecDepth 100000 in
theorem packPack_c (L : List Ve) (hL : L.length ≤ 4096) (v : Value) (w : World) (h : Ew w [] v L) : Calls Tryz.prog 102 #[v] w fun e w' => ∃ v' M, e = .returned (.tuple #[v', .int .i64 (ppE (eds L))]) ∧ eds M = ppR (eds L) ∧ OwnPr w' w.heap.size v' M ∧ Ext w w' := by
  have hc := hide (packEdges_c L hL v w h)
  have hpp : ppE (eds L) = if pkE (eds L) = 0 then pcE (pkR (eds L)) else pkE (eds L) := rfl
  have hpr : ppR (eds L) = if pkE (eds L) = 0 then pcR (pkR (eds L)) else [] := rfl
  generalize ppE (eds L) = E2 at *
  generalize ppR (eds L) = R2 at *
  obtain ⟨A, cap, rfl, -, -, -⟩ := ew_form h
  clear h
  by_cases hz : pkE (eds L) = 0
  · rw [if_pos hz] at hpp hpr
    rw [hz] at hc
    obtain ⟨R, hR⟩ : ∃ R, R = pkR (eds L) := ⟨_, rfl⟩
    rw [← hR] at hc hpp hpr
    replace hpp := hide hpp
    replace hpr := hide hpr
    replace hz := hide hz
    replace hR := hide hR
    go_enter Tryz.func102, Tryz.ntmps102
    go_wp2_with (first | (go_at_call 48; refine hc.out.mono ?_; rintro ee w1 ⟨v1, M1, rfl, hM1, ho1, hx1⟩; have hpc := hide (pieces_c M1 v1 w1 ho1.ew); rw [hM1] at hpc; obtain ⟨A1, c1, rfl⟩ := own_form ho1.1; replace hM1 := hide hM1; replace ho1 := hide ho1) | (go_at_call 86; refine hpc.out.mono ?_; rintro ee w2 ⟨v2, M2, rfl, hM2, ho2, hx2⟩; obtain ⟨A2, c2, rfl⟩ := own_form ho2.1; replace hM2 := hide hM2; replace ho2 := hide ho2))
    go_returns
    exact ⟨_, M2, by rw [hpp.out]; rfl, by rw [hpr.out, hM2.out], ho2.out.lower hx1.size, hx1.trans hx2⟩
  · rw [if_neg hz] at hpp hpr
    have hne : (pkE (eds L) != 0) = true := by simp [hz]
    generalize pkE (eds L) = E at *
    subst hpp
    replace hpr := hide hpr
    replace hz := hide hz
    go_enter Tryz.func102, Tryz.ntmps102
    go_wp2_with (go_at_call 48; refine hc.out.mono ?_; rintro ee w1 ⟨v1, M1, rfl, hM1, ho1, hx1⟩; obtain ⟨A1, c1, rfl⟩ := own_form ho1.1; replace hM1 := hide hM1; replace ho1 := hide ho1)
    go_returns
    exact ⟨_, [], rfl, by rw [hpr.out]; rfl, OwnPr.nil _ _, hx1⟩
end Go.Proofs.YtobmjcehgpmfgaaGreat
set_option linter.unusedVariables false
set_option linter.unusedSimpArgs false
namespace Go.Proofs.YtobmjcehgpmfgaaGreat
open Go.RowKit
attribute [local go_sem] GW.cell GW.frozen In.eq_true In.le_true In.ne In.ne' In.ne_add In.ne_add' In.lt_add Upto.le_true Upto.le_add Upto.lt_add
theorem tPcF : ElemT Tryz.prog 42 147 (.agg #[.slice none 0 0, .int .i64 0, .int .i64 0]) 3 40 := ElemT.mk' Tryz.underlying42 (by kernel_rfl) rfl (by omega)
def pcO (v : Value) (x : Ed) : List Value := [v, .int .i64 x.2.1, .int .i64 x.2.2]
abbrev OwnPx := OwnX (α := Ed) 147 3 pcO (fun x => x.1)
def exP1 (x : Ex) : Ed := (x.1.2, x.2)
/-- The pieces of what messages came to. -/
def exP (l : List PM) : List Ed := ((exL (runS (0, []) l).2).filter fun x => !goneX x).map exP1
theorem OwnPx.ew {w : World} {base : Nat} {v : Value} {N : List Ve} (h : OwnPx w base v N) : Ew w [] v N := ⟨Sl.own h.1 (by simp), fun p hp => (h.2 p hp).rw⟩
theorem pcO_one {UA : Option Addr} {ul uc : Nat} {x : Ed} : ∀ y ∈ pcO (.slice UA ul uc) x, y.oneCell' = true := by
  intro y hy; simp [pcO] at hy; rcases hy with rfl | rfl | rfl <;> rfl
theorem exP_len (l : List PM) : (exP l).length ≤ l.length := by
  have h1 := runS_len l (0, [])
  have h2 := List.length_filter_le (fun x : Ex => !goneX x) (exL (runS (0, []) l).2)
  unfold exP
  rw [List.length_map]
  unfold exL at h2 ⊢
  rw [List.length_map] at h2
  simp only [List.length_nil, Nat.zero_add] at h1
  omega
set_option maxHeartbeats 8000000 in
set_option maxRecDepth 100000 in
theorem table_c (L : List Vm) (v : Value) (w : World) (hL : Mw w [] v L) (hin : ∀ p ∈ L, inM p.2) (hlen : L.length ≤ 4096) : Calls Tryz.prog 42 #[v] w fun e w' => ∃ v' M, e = .returned (.tuple #[v', .int .i64 (ppE (exP (pms L)))]) ∧ eds M = ppR (exP (pms L)) ∧ OwnPr w' w.heap.size v' M ∧ Ext w w' := by
  have hev := hide (events_c L v w hL hin (by omega))
  have hPl := exP_len (pms L)
  obtain ⟨P, hP⟩ : ∃ P, P = exP (pms L) := ⟨_, rfl⟩
  rw [← hP] at hPl ⊢
  have hpl : (pms L).length = L.length := by simp [pms]
  rw [hpl] at hPl
  have hPe : P = ((exL (runS (0, []) (pms L)).2).filter fun x => !goneX x).map exP1 := hP
  replace hP := hide hP
  obtain ⟨Ee, hEe⟩ : ∃ Ee, Ee = ppE P := ⟨_, rfl⟩
  obtain ⟨Rr, hRr⟩ : ∃ Rr, Rr = ppR P := ⟨_, rfl⟩
  rw [← hEe, ← hRr]
  replace hEe := hide hEe
  replace hRr := hide hRr
  obtain ⟨LA, lc, rfl, -, -, -⟩ := mw_form hL
  clear hL hin
  replace hPe := hide hPe
  go_enter Tryz.func42, Tryz.ntmps42
  go_wp2_with (go_at_call 39; (refine hev.out.mono ?_; rintro ee w1 ⟨v1, M, rfl, ho1, hM, hX1⟩; obtain ⟨A1, c1, e1⟩ := ho1.form; subst e1; have hMP := hide (show M.map (fun p => exP1 p.2) = P by (rw [hPe.out, ← hM, List.map_map]; rfl)); replace ho1 := hide ho1; replace hX1 := hide hX1; clear hM))
  have hMl : M.length ≤ 4096 := by have := congrArg List.length hMP.out; rw [List.length_map] at this; omega
  clear hev
  go_loopg [4, 10] M.length (fun gh lv iv wr => ∃ (k : Nat) (N : List Ve), iv = .int .i64 k ∧ k + gh = M.length ∧ N.length = k ∧ Hid (OwnPx wr w1.heap.size lv N) ∧ Hid (eds N = (M.take k).map fun p => exP1 p.2) ∧ Ext w1 wr)
  case atStart => exact ⟨0, [], rfl, by omega, rfl, OwnX.nil _ _, rfl, Ext.refl _⟩
  case round =>
    obtain ⟨k, N, rfl, hk, hNl, hN, hNe, hX⟩ := hrel
    have hzX := hX.size
    by_cases hlt : k < M.length
    · have hltI : (k : Int) < M.length := by omega
      obtain ⟨x, hx⟩ : ∃ x, M[k]? = some x := ⟨_, List.getElem?_eq_getElem hlt⟩
      obtain ⟨g, cap', PA, pc, e1, -, hgl, e2, q0, q1, q2, q3⟩ := own_evat (ho1.out.ext hX) hx
      cases e1
      haveI : In g wr := ⟨hgl⟩
      have hrx := hide ((ho1.out.ext hX).2 x (List.mem_of_getElem? hx))
      have hnx := hide (show eds N ++ [exP1 x.2] = (M.take (k + 1)).map fun p => exP1 p.2 by rw [hNe.out, take_one hx, List.map_append]; rfl)
      obtain ⟨xv, ⟨xi, xr⟩, x1, x2⟩ := x
      simp only at e2 q0 q1 q2 q3 hrx
      subst e2
      have hsrc := hide (show Sl ((wr.alloc (.cells #[.int .i64 xi, .slice PA xr.length pc, .int .i64 x1, .int .i64 x2] 75)).alloc (.cells (pcO (.slice PA xr.length pc) (xr, (x1, x2))).toArray 147)) [] 3 (.slice (some ⟨wr.heap.size + 1, 0, none⟩) 1 1) 1 (pcO (.slice PA xr.length pc) (xr, (x1, x2))) by
        have := Sl.own (S := []) (World.ownsRow_lit (base := (wr.alloc (.cells #[.int .i64 xi, .slice PA xr.length pc, .int .i64 x1, .int .i64 x2] 75)).heap.size) (e := 147) (size := 3) (wr.alloc (.cells #[.int .i64 xi, .slice PA xr.length pc, .int .i64 x1, .int .i64 x2] 75)) (pcO (.slice PA xr.length pc) (xr, (x1, x2))).toArray 1 (Nat.le_refl _) (by decide) rfl) (by simp)
        rw [World.size_alloc] at this
        exact this)
      have hXW := hide (((Ext.refl wr).alloc (.cells #[.int .i64 xi, .slice PA xr.length pc, .int .i64 x1, .int .i64 x2] 75)).alloc (.cells (pcO (.slice PA xr.length pc) (xr, (x1, x2))).toArray 147))
      obtain ⟨C, ccap, e3⟩ := hN.out.form
      subst e3
      clear hx
      go_wp2_with (at_builtin; (refine wpl_app tPcF rfl (.tmp 14) (.tmp 20) rfl rfl (hN.out.ext hXW.out).1 rfl (src_sl Tryz.underlying42 hsrc.out pcO_one (by omega)) (by unfold maxLen; omega) (by omega) (by simp only [World.size_alloc]; omega) ?_; intro v8 w8 ho8 hg8 hob8; replace hg8 : World.grownBy _ w8 (Value.slice C N.length ccap).ownBlock := hg8; have hN8 := hide ((hN.out.ext hXW.out).app (M := [((.slice PA xr.length pc), (xr, (x1, x2)))]) (by decide) (by simpa using ho8) hg8 (by intro p hp; rw [List.mem_singleton.1 hp]; exact RwO.ext hrx.out hXW.out)); have hX8 := hide (ext_grown (hX.trans hXW.out) hg8 (fun y hy => ((hN.out.ext hXW.out).1.lt y hy).1)); skip))
      go_roundg (M.length - (k + 1))
      case measure => omega
      case rel => exact ⟨k + 1, N ++ [((.slice PA xr.length pc), (xr, (x1, x2)))], by go_num, by omega, by rw [List.length_append, List.length_singleton, hNl], hN8, (by show _ = _; rw [show eds (N ++ [((.slice PA xr.length pc), (xr, (x1, x2)))]) = eds N ++ [(xr, (x1, x2))] by simp [eds]]; exact hnx.out), hX8.out⟩
    · have hke : k = M.length := by omega
      have hge : (M.length : Int) ≤ k := by omega
      have dk : decide ((k : Int) < M.length) = false := decide_eq_false (by omega)
      have hpk := packPack_c N (by omega) _ wr (OwnPx.ew hN.out)
      rw [hNe.out, hke, List.take_length, hMP.out, ← hEe.out, ← hRr.out] at hpk
      obtain ⟨C, ccap, e3⟩ := hN.out.form
      subst e3
      have hXf := hide (hX1.out.trans hX)
      have hz1 := hXf.out.size
      replace hpk := hide hpk
      clear hN hNe ho1 hNl hke hpl hPl hMl hMP
      go_wp2_with (go_at_call 102; (refine hpk.out.mono ?_; rintro ee w9 ⟨v9, M9, rfl, hM9, ho9, hX9⟩; obtain ⟨A9, c9, e9⟩ := own_form ho9.1; subst e9; replace hM9 := hide hM9; replace ho9 := hide ho9; replace hX9 := hide hX9))
      go_returns
      exact ⟨_, M9, rfl, hM9.out, ho9.out.lower hz1, hXf.out.trans hX9.out⟩
end Go.Proofs.YtobmjcehgpmfgaaGreat
set_option linter.unusedVariables false
set_option linter.unusedSimpArgs false
namespace Go.Proofs.YtobmjcehgpmfgaaGreat
open Go.RowKit
attribute [local go_sem] GW.cell GW.frozen In.eq_true In.le_true In.ne In.ne' In.ne_add In.ne_add' In.lt_add Upto.le_true Upto.le_add Upto.lt_add
def r5F : List Vl := [(1, 5, ⟨#[]⟩)]
def lvF (u : Value) : List Vm := [(u, ((1, 1, 2, 9), r5F)), (.slice none 0 0, ((2, 1, 0, 9), [])), (.slice none 0 0, ((2, 1, 0, 4), [])), (.slice none 0 0, ((3, 0, 4, 0), []))]
def lmF : List PM := [((1, 1, 2, 9), r5F), ((2, 1, 0, 9), []), ((2, 1, 0, 4), []), ((3, 0, 4, 0), [])]
theorem runE_lv : runE (0, []) lmF = [0, 15, 0, 0] := by decide +kernel
theorem clk_lv : (runS (0, []) lmF).1 = 4 := by decide +kernel
theorem ppE_lv : ppE (exP lmF) = 0 := by decide +kernel
theorem ppR_lv : ppR (exP lmF) = [(r5F, (2, 4))] := by decide +kernel
theorem evn_lv : ((exL (runS (0, []) lmF).2).filter (fun x => !goneX x)).length = 1 := by decide +kernel
theorem ed_one {M : List Ve} {x : Ed} (h : eds M = [x]) : ∃ y : Ve, M = [y] ∧ y.2 = x := by
  cases M with
  | nil => cases h
  | cons y r =>
    cases r with
    | nil => exact ⟨y, rfl, (List.cons.inj h).1⟩
    | cons z r => exact absurd (congrArg List.length h) (by simp [eds])
abbrev oF5 : Obj := .cells #[.int .i64 1, .int .i64 5, .string ⟨#[]⟩] 113
abbrev oFm (u : Value) : Obj := .cells (mc (lvF u)).toArray 97
theorem inM_lv (u : Value) : ∀ p ∈ lvF u, inM p.2 := by
  intro p hp
  simp only [lvF, List.mem_cons, List.not_mem_nil, or_false] at hp
  rcases hp with rfl | rfl | rfl | rfl
  · exact ⟨by show inI 1 ∧ inI 1 ∧ inI 2 ∧ inI 9; decide, by intro a ha; simp only [r5F, List.mem_singleton] at ha; subst ha; decide⟩
  · exact ⟨by decide, by simp⟩
  · exact ⟨by decide, by simp⟩
  · exact ⟨by decide, by simp⟩
theorem mw_lv (w : World) : Mw ((w.alloc oF5).alloc (oFm (.slice (some ⟨w.heap.size, 0, none⟩) 1 1))) [] (.slice (some ⟨w.heap.size + 1, 0, none⟩) 4 4) (lvF (.slice (some ⟨w.heap.size, 0, none⟩) 1 1)) := by
  have h1 : Rw (w.alloc oF5) [] (.slice (some ⟨w.heap.size, 0, none⟩) 1 1) r5F := Sl.own (World.ownsRow_lit (base := w.heap.size) (e := 113) (size := 3) w #[.int .i64 1, .int .i64 5, .string ⟨#[]⟩] 1 (Nat.le_refl _) (by decide) rfl) (by simp)
  refine ⟨?_, fun p hp => ?_⟩
  · have := Sl.own (S := []) (World.ownsRow_lit (base := (w.alloc oF5).heap.size) (e := 97) (size := 5) (w.alloc oF5) (mc (lvF (.slice (some ⟨w.heap.size, 0, none⟩) 1 1))).toArray 4 (Nat.le_refl _) (by decide) rfl) (by simp)
    rw [World.size_alloc] at this
    exact this
  · simp only [lvF, List.mem_cons, List.not_mem_nil, or_false] at hp
    rcases hp with rfl | rfl | rfl | rfl
    · exact Sl.alloc h1 _
    · exact Sl.nil _ _ _
    · exact Sl.nil _ _ _
    · exact Sl.nil _ _ _
set_option maxHeartbeats 8000000 in
set_option maxRecDepth 100000 in
theorem foldLive_c (w : World) : Calls Tryz.prog 33 #[] w fun e w' => e = .returned (.bool true) ∧ Ext w w' := by
  obtain ⟨LV, hLV⟩ : ∃ LV, LV = lvF (.slice (some ⟨w.heap.size, 0, none⟩) 1 1) := ⟨_, rfl⟩
  have hM0 := mw_lv w
  have hin := inM_lv (.slice (some ⟨w.heap.size, 0, none⟩) 1 1)
  rw [← hLV] at hin
  have hpm : pms LV = lmF := by rw [hLV]; rfl
  have hll : LV.length = 4 := by rw [hLV]; rfl
  have hMw : Hid (Mw ((w.alloc oF5).alloc (oFm (.slice (some ⟨w.heap.size, 0, none⟩) 1 1))) [] (.slice (some ⟨w.heap.size + 1, 0, none⟩) 4 4) LV) := by rw [hLV]; exact hM0
  have han := hide (fun w' (hX : Ext ((w.alloc oF5).alloc (oFm (.slice (some ⟨w.heap.size, 0, none⟩) 1 1))) w') => answers_c LV _ w' (hMw.out.ext hX) hin (by omega))
  have hck := hide (fun w' (hX : Ext ((w.alloc oF5).alloc (oFm (.slice (some ⟨w.heap.size, 0, none⟩) 1 1))) w') => clock_c LV _ w' (hMw.out.ext hX) hin (by omega))
  have hev := hide (fun w' (hX : Ext ((w.alloc oF5).alloc (oFm (.slice (some ⟨w.heap.size, 0, none⟩) 1 1))) w') => events_c LV _ w' (hMw.out.ext hX) hin (by omega))
  have htb := hide (fun w' (hX : Ext ((w.alloc oF5).alloc (oFm (.slice (some ⟨w.heap.size, 0, none⟩) 1 1))) w') => table_c LV _ w' (hMw.out.ext hX) hin (by omega))
  rw [hpm] at han hck hev htb
  rw [runE_lv] at han
  rw [clk_lv] at hck
  rw [ppE_lv, ppR_lv] at htb
  clear hM0 hin hpm hll hLV
  go_enter Tryz.func33, Tryz.ntmps33
  go_wp2_with (first
    | (go_at_call 34; (refine (han.out _ (Ext.refl _)).mono ?_; rintro ee w2 ⟨sv, rfl, ho, hX2⟩; obtain ⟨g, cap, cur, e1, hb, hg, hn⟩ : ∃ g cap cur, sv = .slice (some ⟨g, 0, none⟩) 4 cap ∧ g < w2.heap.size ∧ w2.heap[g]? = some (.cells cur 34) ∧ 4 ≤ cap := (by rcases ho.2 with ⟨-, h2⟩ | ⟨g, cap, cur, e1, hb, hg, hn, -⟩; exact absurd h2 (by decide); exact ⟨g, cap, cur, e1, lt_of_block hg, hg, hn⟩); subst e1; have a0 := ho.cells (g := g) rfl 0 _ rfl; have a1 := ho.cells (g := g) rfl 1 _ rfl; have a2 := ho.cells (g := g) rfl 2 _ rfl; have a3 := ho.cells (g := g) rfl 3 _ rfl; rw [add_plain, Nat.zero_add] at a0 a1 a2 a3; haveI : In g w2 := ⟨hb⟩; replace hX2 := hide hX2; clear ho hg))
    | (go_at_call 42; (refine (htb.out w2 hX2.out).mono ?_; rintro ee w3 ⟨v3, M3, rfl, hM3, ho3, hX3⟩; obtain ⟨x, rfl, hx⟩ : ∃ x : Ve, M3 = [x] ∧ x.2 = (r5F, (2, 4)) := ed_one hM3; obtain ⟨A3, c3, e3, -, -, hat⟩ := ew_form ho3.ew; subst e3; obtain ⟨b3, o3, rfl, -, hb3, p0, p1, p2⟩ := hat 0 x rfl; rw [hx] at p1 p2; simp only [Nat.zero_mul, Nat.add_zero] at p0 p1 p2; have b0 := cell_later hX3 a0; have b1 := cell_later hX3 a1; have b2 := cell_later hX3 a2; have b3' := cell_later hX3 a3; have bl := block_lt_of_cell b0; haveI : In g w3 := ⟨bl⟩; haveI : In b3 w3 := ⟨hb3⟩; have hX3' := hide (hX2.out.trans hX3); clear hM3 ho3 hat hX3))
    | (go_at_call 36; first | ((with_reducible refine seq_gw' (hck.out w3 hX3'.out) ?_); intro g4) | ((with_reducible refine seq_gw (hck.out w3 hX3'.out) ?_); intro g4))
    | (go_at_call 39; (refine (hev.out g4.val (hX3'.out.trans g4.grown)).mono ?_; rintro ee w5 ⟨v5, M5, rfl, ho5, hM5, hX5⟩; have hl5 : M5.length = 1 := (by have := congrArg List.length hM5; rw [List.length_map, evn_lv] at this; exact this); obtain ⟨A5, c5, e5⟩ := ho5.form; rw [hl5] at e5; subst e5; have hX5' := hide (hX3'.out.trans (g4.grown.trans hX5)); clear ho5 hM5 hX5)))
  go_returns
  exact ⟨by first | rfl | simp, (((Ext.refl w).alloc _).alloc _).trans hX5'.out⟩
end Go.Proofs.YtobmjcehgpmfgaaGreat
set_option linter.unusedVariables false
set_option linter.unusedSimpArgs false
namespace Go.Proofs.YtobmjcehgpmfgaaGreat
open Go.RowKit
theorem nmL_eq {l m : List Jp} (hl : ∀ j ∈ l, nowJ j = false) (hm : ∀ j ∈ m, nowJ j = false) (h : ∀ t, jv l t = jv m t) : nmL l = nmL m :=
  one_form (nm_canon _) (nm_canon _) (nmL_lt _ hl) (nmL_lt _ hm) fun t ht => by rw [nmL_val _ hl t ht, nmL_val _ hm t ht, h t]
theorem rowsL_one (q : List Vl) (hq : mayR q = true) (J : List Jp) (hJ : J ≠ []) : rowsL (J.map fun j => (q, j)) = [q] := by
  obtain ⟨h1, h2⟩ := rowsL_ok (l := J.map fun j => (q, j)) (fun e he => by obtain ⟨j, -, rfl⟩ := List.mem_map.1 he; exact hq)
  refine asc_unique rlt_irr rlt_asym _ _ h1 (by simp) fun r => ?_
  rw [h2]
  constructor
  · rintro ⟨e, he, rfl⟩
    obtain ⟨j, -, rfl⟩ := List.mem_map.1 he
    simp
  · intro hr
    rw [List.mem_singleton.1 hr]
    cases J with
    | nil => exact absurd rfl hJ
    | cons j J => exact ⟨(q, j), by simp, rfl⟩
theorem jmps_one (q : List Vl) (J : List Jp) : jmps (J.map fun j => (q, j)) q = J := by
  induction J with
  | nil => rfl
  | cons j J ih => rw [List.map_cons, jmps_cons, if_pos rfl, ih]
theorem tell_len0 (v : Int → Int) : ∀ (ps : List Int) (was : Int), (tell v ps was).length ≤ ps.length
  | [], _ => Nat.le_refl _
  | p :: r, was => by
    have := tell_len0 v r (v p)
    unfold tell
    split
    · rw [List.length_cons]; omega
    · rw [List.length_cons, List.length_cons]; omega
theorem tell_bound (v : Int → Int) (K : Int) (hv : ∀ p, -K ≤ v p ∧ v p ≤ K) : ∀ (ps : List Int) (was : Int), -K ≤ was → was ≤ K → ∀ j ∈ tell v ps was, -(2 * K) ≤ j.2 ∧ j.2 ≤ 2 * K
  | [], _, _, _, j, hj => by cases hj
  | p :: r, was, h1, h2, j, hj => by
    have hp := hv p
    unfold tell at hj
    split at hj
    · exact tell_bound v K hv r (v p) hp.1 hp.2 j hj
    · rcases List.mem_cons.1 hj with rfl | hj
      · simp only; omega
      · exact tell_bound v K hv r (v p) hp.1 hp.2 j hj
/-- Few edges of one row, put together. -/
theorem ne_one (q : List Vl) (hq : mayR q = true) (J : List Jp) (hJ : ∀ j ∈ J, tooJ j = false ∧ nowJ j = false) (hm : mayJ (nmL J) = true) : neE (J.map fun j => (q, j)) = 0 ∧ neR (J.map fun j => (q, j)) = (nmL J).map fun j => (q, j) := by
  have a1 : (J.map fun j => (q, j)).any badE = false := List.any_eq_false.2 fun e he => by
    obtain ⟨j, hj, rfl⟩ := List.mem_map.1 he
    unfold badE
    rw [hq, (hJ j hj).1]; decide
  have a2 : (J.map fun j => (q, j)).any (fun e => nowJ e.2) = false := List.any_eq_false.2 fun e he => by
    obtain ⟨j, hj, rfl⟩ := List.mem_map.1 he
    simp only
    rw [(hJ j hj).2]; decide
  have hE : nmE J = 0 := by
    unfold nmE
    rw [List.any_eq_false.2 fun j hj => by rw [(hJ j hj).1]; decide, List.any_eq_false.2 fun j hj => by rw [(hJ j hj).2]; decide, if_neg (by decide), if_neg (by decide)]
    exact full_zero.2 hm
  have hR : nmR J = nmL J := by unfold nmR; rw [if_pos hE]
  have hl := mayJ_len hm
  by_cases hn : J = []
  · subst hn
    have e1 : nmL [] = [] := by decide +kernel
    rw [e1]
    refine ⟨?_, ?_⟩
    · show neE ([] : List Ed) = 0
      decide +kernel
    · show neR ([] : List Ed) = []
      decide +kernel
  · have hb : byRows (J.map fun j => (q, j)) = [(q, J)] := by unfold byRows; rw [rowsL_one q hq J hn, List.map_singleton, jmps_one]
    have e1 : evE nmOp [(q, J)] = 0 := by
      unfold evE
      rw [show (nmOp J).1 = 0 from hE, if_pos rfl]
      rfl
    have e2 : evL nmOp [(q, J)] = (nmL J).map fun j => (q, j) := by
      unfold evL
      rw [List.flatMap_cons, List.flatMap_nil, List.append_nil]
      show ((nmR J).map fun j => (q, j)) = _
      rw [hR]
    have e3 : eachE nmOp [(q, J)] = 0 := by
      unfold eachE
      rw [e1, if_pos rfl, e2, if_neg (by rw [List.length_map]; omega)]
    refine ⟨by unfold neE; rw [a1, a2, if_neg (by decide), if_neg (by decide), hb, e3], ?_⟩
    have h0 : neE (J.map fun j => (q, j)) = 0 := by unfold neE; rw [a1, a2, if_neg (by decide), if_neg (by decide), hb, e3]
    unfold neR
    rw [if_pos h0, hb]
    unfold eachR
    rw [if_pos e3, e2]
/-- The jumps of a change: by the code, by the document. -/
def chJ (o n : Spn) : List Jp := [(n.1, 1), (n.2, -1), (o.1, -1), (o.2, 1)]
def chD (o n : Spn) : List Jp := (if n = (0, 0) then [] else [(n.1, 1), (n.2, -1)]) ++ (if o = (0, 0) then [] else [(o.1, -1), (o.2, 1)])
def spanB (s : Spn) : Bool := smayB s.1 s.2
def lifeB (s : Spn) : Bool := spanB s || decide (s = (0, 0))
theorem life_rng {s : Spn} (h : lifeB s = true) : (0 ≤ s.1 ∧ s.1 ≤ 1125899906842624) ∧ 0 ≤ s.2 ∧ s.2 ≤ 1125899906842624 := by
  unfold lifeB spanB smayB isTickB at h
  rcases Bool.or_eq_true_iff.1 h with h | h
  · simp only [Bool.and_eq_true, decide_eq_true_iff] at h
    omega
  · rw [of_decide_eq_true h]; decide
theorem chJ_fine {o n : Spn} (ho : lifeB o = true) (hn : lifeB n = true) : ∀ j ∈ chJ o n, tooJ j = false ∧ nowJ j = false := by
  have h1 := life_rng ho
  have h2 := life_rng hn
  intro j hj
  unfold tooJ nowJ
  rw [decide_eq_false_iff_not, decide_eq_false_iff_not]
  simp only [chJ, List.mem_cons, List.not_mem_nil, or_false] at hj
  rcases hj with rfl | rfl | rfl | rfl <;> simp only <;> omega
theorem ch_may {o n : Spn} (ho : lifeB o = true) (hn : lifeB n = true) : mayJ (nmL (chJ o n)) = true := by
  have hf := fun j hj => (chJ_fine ho hn j hj).2
  have hc := nm_canon (chJ o n)
  rw [mayJ_iff]
  have hmem := fun (j : Jp) (hj : j ∈ nmL (chJ o n)) => tell_mem (jv (chJ o n)) (plc [] (inF (chJ o n))) 0 j hj
  refine ⟨?_, fun j hj => ?_, hc.1⟩
  · have h1 := tell_len0 (jv (chJ o n)) (plc [] (inF (chJ o n))) 0
    have h2 := plc_length (inF (chJ o n)) [] Asc.nil'
    have h3 : (inF (chJ o n)).length ≤ (chJ o n).length := List.length_filter_le _ _
    have h4 : (chJ o n).length = 4 := rfl
    unfold nmL
    rw [List.length_nil] at h2
    omega
  · rw [okJ_iff]
    obtain ⟨p1, p2⟩ := hmem j hj
    have hlt := nmL_lt _ hf j hj
    have hge : -1 ≤ j.1 := by
      rw [plc_mem] at p1
      rcases p1 with p1 | ⟨k, hk, e⟩
      · cases p1
      · have := hf k (List.mem_filter.1 hk).1
        unfold nowJ at this
        rw [decide_eq_false_iff_not] at this
        omega
    refine ⟨hge, hlt, hc.2 j hj, ?_⟩
    have hv : ∀ t, -4 ≤ jv (chJ o n) t ∧ jv (chJ o n) t ≤ 4 := fun t => by
      have := jv_bound (f := chJ o n) (K := 1) (by decide) (fun k hk => by
        simp only [chJ, List.mem_cons, List.not_mem_nil, or_false] at hk
        rcases hk with rfl | rfl | rfl | rfl <;> simp) t
      have h4 : (chJ o n).length = 4 := rfl
      rw [h4] at this
      omega
    have := tell_bound (jv (chJ o n)) 4 hv (plc [] (inF (chJ o n))) 0 (by decide) (by decide) j hj
    omega
end Go.Proofs.YtobmjcehgpmfgaaGreat
set_option linter.unusedVariables false
set_option linter.unusedSimpArgs false
namespace Go.Proofs.YtobmjcehgpmfgaaGreat
open Go.RowKit
attribute [local go_sem] GW.cell GW.frozen In.eq_true In.le_true In.ne In.ne' In.ne_add In.ne_add' In.lt_add Upto.le_true Upto.le_add Upto.lt_add
def pI : List Vl := [(1, 1, ⟨#[]⟩)]
theorem litP1 (u : Value) (r : List Vl) (j : Jp) (w : World) (h : Rw w [] u r) : Ew (w.alloc (.cells #[u, .int .i64 j.1, .int .i64 j.2] 147)) [] (.slice (some ⟨w.heap.size, 0, none⟩) 1 1) [(u, r, j)] := by
  refine ⟨Sl.own (World.ownsRow_lit (base := w.heap.size) (e := 147) (size := 3) w #[u, .int .i64 j.1, .int .i64 j.2] 1 (Nat.le_refl _) (by decide) rfl) (by simp), fun p hp => ?_⟩
  obtain rfl := List.mem_singleton.1 hp
  exact Sl.ext h ((Ext.refl w).alloc _)
end Go.Proofs.YtobmjcehgpmfgaaGreat
set_option linter.unusedVariables false
set_option linter.unusedSimpArgs false
namespace Go.Proofs.YtobmjcehgpmfgaaGreat
open Go.RowKit
attribute [local go_sem] GW.cell GW.frozen In.eq_true In.le_true In.ne In.ne' In.ne_add In.ne_add' In.lt_add Upto.le_true Upto.le_add Upto.lt_add
end Go.Proofs.YtobmjcehgpmfgaaGreat
