/-
  A helper of ours: no claim of its own. Layer 13 (fold): the document's state in memory; which event is known, by the document.
-/
import Derived.Test.YtiknkcadbaeknaaGreatPakM
import Derived.Test.YtiknkcadbaeknaaGreatPakQ
import Derived.Test.YtiknkcadbaeknaaGreatFolT
import Derived.Test.YtiknkcadbaeknaaGreatFolXE
set_option linter.unusedVariables false
set_option linter.unusedSimpArgs false
namespace Go.Proofs.YtiknkcadbaeknaaGreat
open Go.RowKit
attribute [local go_sem] GW.cell GW.frozen In.eq_true In.le_true In.ne In.ne' In.ne_add In.ne_add' In.lt_add Upto.le_true Upto.le_add Upto.lt_add
/-- What is wrong with pieces that are packed; they, packed. -/
def ppE (l : List Ed) : Int := if pkE l = 0 then pcE (pkR l) else pkE l
def ppR (l : List Ed) : List Ed := if pkE l = 0 then pcR (pkR l) else []
set_option maxHeartbeats 4000000 in
set_option maxRecDepth 100000 in
theorem packPack_c (L : List Ve) (hL : L.length ≤ 4096) (v : Value) (w : World) (h : Ew w [] v L) : Calls Tryz.prog 58 #[v] w fun e w' => ∃ v' M, e = .returned (.tuple #[v', .int .i64 (ppE (eds L))]) ∧ eds M = ppR (eds L) ∧ OwnPr w' w.heap.size v' M ∧ Ext w w' := by
  have hc := hide (packEdges_c L hL v w h)
  have hpp : ppE (eds L) = if pkE (eds L) = 0 then pcE (pkR (eds L)) else pkE (eds L) := rfl
  have hpr : ppR (eds L) = if pkE (eds L) = 0 then pcR (pkR (eds L)) else [] := rfl
  generalize ppE (eds L) = E2 at *
  generalize ppR (eds L) = R2 at *
  obtain ⟨A, cap, rfl, -, -, -⟩ := ew_form h
  clear h
  by_cases hz : pkE (eds L) = 0
  · rw [if_pos hz] at hpp hpr
    rw [hz] at hc
    obtain ⟨R, hR⟩ : ∃ R, R = pkR (eds L) := ⟨_, rfl⟩
    rw [← hR] at hc hpp hpr
    replace hpp := hide hpp
    replace hpr := hide hpr
    replace hz := hide hz
    replace hR := hide hR
    go_enter Tryz.func58, Tryz.ntmps58
    go_wp2_with (first | (go_at_call 44; refine hc.out.mono ?_; rintro ee w1 ⟨v1, M1, rfl, hM1, ho1, hx1⟩; have hpc := hide (pieces_c M1 v1 w1 ho1.ew); rw [hM1] at hpc; obtain ⟨A1, c1, rfl⟩ := own_form ho1.1; replace hM1 := hide hM1; replace ho1 := hide ho1) | (go_at_call 106; refine hpc.out.mono ?_; rintro ee w2 ⟨v2, M2, rfl, hM2, ho2, hx2⟩; obtain ⟨A2, c2, rfl⟩ := own_form ho2.1; replace hM2 := hide hM2; replace ho2 := hide ho2))
    go_returns
    exact ⟨_, M2, by rw [hpp.out]; rfl, by rw [hpr.out, hM2.out], ho2.out.lower hx1.size, hx1.trans hx2⟩
  · rw [if_neg hz] at hpp hpr
    have hne : (pkE (eds L) != 0) = true := by simp [hz]
    generalize pkE (eds L) = E at *
    subst hpp
    replace hpr := hide hpr
    replace hz := hide hz
    go_enter Tryz.func58, Tryz.ntmps58
    go_wp2_with (go_at_call 44; refine hc.out.mono ?_; rintro ee w1 ⟨v1, M1, rfl, hM1, ho1, hx1⟩; obtain ⟨A1, c1, rfl⟩ := own_form ho1.1; replace hM1 := hide hM1; replace ho1 := hide ho1)
    go_returns
    exact ⟨_, [], rfl, by rw [hpr.out]; rfl, OwnPr.nil _ _, hx1⟩
end Go.Proofs.YtiknkcadbaeknaaGreat
set_option linter.unusedVariables false
set_option linter.unusedSimpArgs false
namespace Go.Proofs.YtiknkcadbaeknaaGreat
open Go.RowKit
attribute [local go_sem] GW.cell GW.frozen In.eq_true In.le_true In.ne In.ne' In.ne_add In.ne_add' In.lt_add Upto.le_true Upto.le_add Upto.lt_add
theorem tPcF : ElemT Tryz.prog 50 95 (.agg #[.slice none 0 0, .int .i64 0, .int .i64 0]) 3 40 := ElemT.mk' Tryz.underlying50 (by kernel_rfl) rfl (by omega)
def pcO (v : Value) (x : Ed) : List Value := [v, .int .i64 x.2.1, .int .i64 x.2.2]
abbrev OwnPx := OwnX (α := Ed) 95 3 pcO (fun x => x.1)
def exP1 (x : Ex) : Ed := (x.1.2, x.2)
/-- The pieces of what messages came to. -/
def exP (l : List PM) : List Ed := ((exL (runS (0, []) l).2).filter fun x => !goneX x).map exP1
theorem OwnPx.ew {w : World} {base : Nat} {v : Value} {N : List Ve} (h : OwnPx w base v N) : Ew w [] v N := ⟨Sl.own h.1 (by simp), fun p hp => (h.2 p hp).rw⟩
theorem pcO_one {UA : Option Addr} {ul uc : Nat} {x : Ed} : ∀ y ∈ pcO (.slice UA ul uc) x, y.oneCell' = true := by
  intro y hy; simp [pcO] at hy; rcases hy with rfl | rfl | rfl <;> rfl
theorem exP_len (l : List PM) : (exP l).length ≤ l.length := by
  have h1 := runS_len l (0, [])
  have h2 := List.length_filter_le (fun x : Ex => !goneX x) (exL (runS (0, []) l).2)
  unfold exP
  rw [List.length_map]
  unfold exL at h2 ⊢
  rw [List.length_map] at h2
  simp only [List.length_nil, Nat.zero_add] at h1
  omega
set_option maxHeartbeats 8000000 in
set_option maxRecDepth 100000 in
theorem table_c (L : List Vm) (v : Value) (w : World) (hL : Mw w [] v L) (hin : ∀ p ∈ L, inM p.2) (hlen : L.length ≤ 4096) : Calls Tryz.prog 18 #[v] w fun e w' => ∃ v' M, e = .returned (.tuple #[v', .int .i64 (ppE (exP (pms L)))]) ∧ eds M = ppR (exP (pms L)) ∧ OwnPr w' w.heap.size v' M ∧ Ext w w' := by
  have hev := hide (events_c L v w hL hin (by omega))
  have hPl := exP_len (pms L)
  obtain ⟨P, hP⟩ : ∃ P, P = exP (pms L) := ⟨_, rfl⟩
  rw [← hP] at hPl ⊢
  have hpl : (pms L).length = L.length := by simp [pms]
  rw [hpl] at hPl
  have hPe : P = ((exL (runS (0, []) (pms L)).2).filter fun x => !goneX x).map exP1 := hP
  replace hP := hide hP
  obtain ⟨Ee, hEe⟩ : ∃ Ee, Ee = ppE P := ⟨_, rfl⟩
  obtain ⟨Rr, hRr⟩ : ∃ Rr, Rr = ppR P := ⟨_, rfl⟩
  rw [← hEe, ← hRr]
  replace hEe := hide hEe
  replace hRr := hide hRr
  obtain ⟨LA, lc, rfl, -, -, -⟩ := mw_form hL
  clear hL hin
  replace hPe := hide hPe
  go_enter Tryz.func18, Tryz.ntmps18
  go_wp2_with (go_at_call 15; (refine hev.out.mono ?_; rintro ee w1 ⟨v1, M, rfl, ho1, hM, hX1⟩; obtain ⟨A1, c1, e1⟩ := ho1.form; subst e1; have hMP := hide (show M.map (fun p => exP1 p.2) = P by (rw [hPe.out, ← hM, List.map_map]; rfl)); replace ho1 := hide ho1; replace hX1 := hide hX1; clear hM))
  have hMl : M.length ≤ 4096 := by have := congrArg List.length hMP.out; rw [List.length_map] at this; omega
  clear hev
  go_loopg [4, 10] M.length (fun gh lv iv wr => ∃ (k : Nat) (N : List Ve), iv = .int .i64 k ∧ k + gh = M.length ∧ N.length = k ∧ Hid (OwnPx wr w1.heap.size lv N) ∧ Hid (eds N = (M.take k).map fun p => exP1 p.2) ∧ Ext w1 wr)
  case atStart => exact ⟨0, [], rfl, by omega, rfl, OwnX.nil _ _, rfl, Ext.refl _⟩
  case round =>
    obtain ⟨k, N, rfl, hk, hNl, hN, hNe, hX⟩ := hrel
    have hzX := hX.size
    by_cases hlt : k < M.length
    · have hltI : (k : Int) < M.length := by omega
      obtain ⟨x, hx⟩ : ∃ x, M[k]? = some x := ⟨_, List.getElem?_eq_getElem hlt⟩
      obtain ⟨g, cap', PA, pc, e1, -, hgl, e2, q0, q1, q2, q3⟩ := own_evat (ho1.out.ext hX) hx
      cases e1
      haveI : In g wr := ⟨hgl⟩
      have hrx := hide ((ho1.out.ext hX).2 x (List.mem_of_getElem? hx))
      have hnx := hide (show eds N ++ [exP1 x.2] = (M.take (k + 1)).map fun p => exP1 p.2 by rw [hNe.out, take_one hx, List.map_append]; rfl)
      obtain ⟨xv, ⟨xi, xr⟩, x1, x2⟩ := x
      simp only at e2 q0 q1 q2 q3 hrx
      subst e2
      have hsrc := hide (show Sl ((wr.alloc (.cells #[.int .i64 xi, .slice PA xr.length pc, .int .i64 x1, .int .i64 x2] 48)).alloc (.cells (pcO (.slice PA xr.length pc) (xr, (x1, x2))).toArray 95)) [] 3 (.slice (some ⟨wr.heap.size + 1, 0, none⟩) 1 1) 1 (pcO (.slice PA xr.length pc) (xr, (x1, x2))) by
        have := Sl.own (S := []) (World.ownsRow_lit (base := (wr.alloc (.cells #[.int .i64 xi, .slice PA xr.length pc, .int .i64 x1, .int .i64 x2] 48)).heap.size) (e := 95) (size := 3) (wr.alloc (.cells #[.int .i64 xi, .slice PA xr.length pc, .int .i64 x1, .int .i64 x2] 48)) (pcO (.slice PA xr.length pc) (xr, (x1, x2))).toArray 1 (Nat.le_refl _) (by decide) rfl) (by simp)
        rw [World.size_alloc] at this
        exact this)
      have hXW := hide (((Ext.refl wr).alloc (.cells #[.int .i64 xi, .slice PA xr.length pc, .int .i64 x1, .int .i64 x2] 48)).alloc (.cells (pcO (.slice PA xr.length pc) (xr, (x1, x2))).toArray 95))
      obtain ⟨C, ccap, e3⟩ := hN.out.form
      subst e3
      clear hx
      go_wp2_with (at_builtin; (refine wpl_app tPcF rfl (.tmp 14) (.tmp 20) rfl rfl (hN.out.ext hXW.out).1 rfl (src_sl Tryz.underlying50 hsrc.out pcO_one (by omega)) (by unfold maxLen; omega) (by omega) (by simp only [World.size_alloc]; omega) ?_; intro v8 w8 ho8 hg8 hob8; replace hg8 : World.grownBy _ w8 (Value.slice C N.length ccap).ownBlock := hg8; have hN8 := hide ((hN.out.ext hXW.out).app (M := [((.slice PA xr.length pc), (xr, (x1, x2)))]) (by decide) (by simpa using ho8) hg8 (by intro p hp; rw [List.mem_singleton.1 hp]; exact RwO.ext hrx.out hXW.out)); have hX8 := hide (ext_grown (hX.trans hXW.out) hg8 (fun y hy => ((hN.out.ext hXW.out).1.lt y hy).1)); skip))
      go_roundg (M.length - (k + 1))
      case measure => omega
      case rel => exact ⟨k + 1, N ++ [((.slice PA xr.length pc), (xr, (x1, x2)))], by go_num, by omega, by rw [List.length_append, List.length_singleton, hNl], hN8, (by show _ = _; rw [show eds (N ++ [((.slice PA xr.length pc), (xr, (x1, x2)))]) = eds N ++ [(xr, (x1, x2))] by simp [eds]]; exact hnx.out), hX8.out⟩
    · have hke : k = M.length := by omega
      have hge : (M.length : Int) ≤ k := by omega
      have dk : decide ((k : Int) < M.length) = false := decide_eq_false (by omega)
      have hpk := packPack_c N (by omega) _ wr (OwnPx.ew hN.out)
      rw [hNe.out, hke, List.take_length, hMP.out, ← hEe.out, ← hRr.out] at hpk
      obtain ⟨C, ccap, e3⟩ := hN.out.form
      subst e3
      have hXf := hide (hX1.out.trans hX)
      have hz1 := hXf.out.size
      replace hpk := hide hpk
      clear hN hNe ho1 hNl hke hpl hPl hMl hMP
      go_wp2_with (go_at_call 58; (refine hpk.out.mono ?_; rintro ee w9 ⟨v9, M9, rfl, hM9, ho9, hX9⟩; obtain ⟨A9, c9, e9⟩ := own_form ho9.1; subst e9; replace hM9 := hide hM9; replace ho9 := hide ho9; replace hX9 := hide hX9))
      go_returns
      exact ⟨_, M9, rfl, hM9.out, ho9.out.lower hz1, hXf.out.trans hX9.out⟩
end Go.Proofs.YtiknkcadbaeknaaGreat
set_option linter.unusedVariables false
set_option linter.unusedSimpArgs false
namespace Go.Proofs.YtiknkcadbaeknaaGreat
open Go.RowKit
attribute [local go_sem] GW.cell GW.frozen In.eq_true In.le_true In.ne In.ne' In.ne_add In.ne_add' In.lt_add Upto.le_true Upto.le_add Upto.lt_add
def r5F : List Vl := [(1, 5, ⟨#[]⟩)]
def lvF (u : Value) : List Vm := [(u, ((1, 1, 2, 9), r5F)), (.slice none 0 0, ((2, 1, 0, 9), [])), (.slice none 0 0, ((2, 1, 0, 4), [])), (.slice none 0 0, ((3, 0, 4, 0), []))]
def lmF : List PM := [((1, 1, 2, 9), r5F), ((2, 1, 0, 9), []), ((2, 1, 0, 4), []), ((3, 0, 4, 0), [])]
theorem runE_lv : runE (0, []) lmF = [0, 15, 0, 0] := by decide +kernel
theorem clk_lv : (runS (0, []) lmF).1 = 4 := by decide +kernel
theorem ppE_lv : ppE (exP lmF) = 0 := by decide +kernel
theorem ppR_lv : ppR (exP lmF) = [(r5F, (2, 4))] := by decide +kernel
theorem evn_lv : ((exL (runS (0, []) lmF).2).filter (fun x => !goneX x)).length = 1 := by decide +kernel
theorem ed_one {M : List Ve} {x : Ed} (h : eds M = [x]) : ∃ y : Ve, M = [y] ∧ y.2 = x := by
  cases M with
  | nil => cases h
  | cons y r =>
    cases r with
    | nil => exact ⟨y, rfl, (List.cons.inj h).1⟩
    | cons z r => exact absurd (congrArg List.length h) (by simp [eds])
abbrev oF5 : Obj := .cells #[.int .i64 1, .int .i64 5, .string ⟨#[]⟩] 93
abbrev oFm (u : Value) : Obj := .cells (mc (lvF u)).toArray 67
theorem inM_lv (u : Value) : ∀ p ∈ lvF u, inM p.2 := by
  intro p hp
  simp only [lvF, List.mem_cons, List.not_mem_nil, or_false] at hp
  rcases hp with rfl | rfl | rfl | rfl
  · exact ⟨by show inI 1 ∧ inI 1 ∧ inI 2 ∧ inI 9; decide, by intro a ha; simp only [r5F, List.mem_singleton] at ha; subst ha; decide⟩
  · exact ⟨by decide, by simp⟩
  · exact ⟨by decide, by simp⟩
  · exact ⟨by decide, by simp⟩
theorem mw_lv (w : World) : Mw ((w.alloc oF5).alloc (oFm (.slice (some ⟨w.heap.size, 0, none⟩) 1 1))) [] (.slice (some ⟨w.heap.size + 1, 0, none⟩) 4 4) (lvF (.slice (some ⟨w.heap.size, 0, none⟩) 1 1)) := by
  have h1 : Rw (w.alloc oF5) [] (.slice (some ⟨w.heap.size, 0, none⟩) 1 1) r5F := Sl.own (World.ownsRow_lit (base := w.heap.size) (e := 93) (size := 3) w #[.int .i64 1, .int .i64 5, .string ⟨#[]⟩] 1 (Nat.le_refl _) (by decide) rfl) (by simp)
  refine ⟨?_, fun p hp => ?_⟩
  · have := Sl.own (S := []) (World.ownsRow_lit (base := (w.alloc oF5).heap.size) (e := 67) (size := 5) (w.alloc oF5) (mc (lvF (.slice (some ⟨w.heap.size, 0, none⟩) 1 1))).toArray 4 (Nat.le_refl _) (by decide) rfl) (by simp)
    rw [World.size_alloc] at this
    exact this
  · simp only [lvF, List.mem_cons, List.not_mem_nil, or_false] at hp
    rcases hp with rfl | rfl | rfl | rfl
    · exact Sl.alloc h1 _
    · exact Sl.nil _ _ _
    · exact Sl.nil _ _ _
    · exact Sl.nil _ _ _
set_option maxHeartbeats 8000000 in
set_option maxRecDepth 100000 in
theorem foldLive_c (w : World) : Calls Tryz.prog 9 #[] w fun e w' => e = .returned (.bool true) ∧ Ext w w' := by
  obtain ⟨LV, hLV⟩ : ∃ LV, LV = lvF (.slice (some ⟨w.heap.size, 0, none⟩) 1 1) := ⟨_, rfl⟩
  have hM0 := mw_lv w
  have hin := inM_lv (.slice (some ⟨w.heap.size, 0, none⟩) 1 1)
  rw [← hLV] at hin
  have hpm : pms LV = lmF := by rw [hLV]; rfl
  have hll : LV.length = 4 := by rw [hLV]; rfl
  have hMw : Hid (Mw ((w.alloc oF5).alloc (oFm (.slice (some ⟨w.heap.size, 0, none⟩) 1 1))) [] (.slice (some ⟨w.heap.size + 1, 0, none⟩) 4 4) LV) := by rw [hLV]; exact hM0
  have han := hide (fun w' (hX : Ext ((w.alloc oF5).alloc (oFm (.slice (some ⟨w.heap.size, 0, none⟩) 1 1))) w') => answers_c LV _ w' (hMw.out.ext hX) hin (by omega))
  have hck := hide (fun w' (hX : Ext ((w.alloc oF5).alloc (oFm (.slice (some ⟨w.heap.size, 0, none⟩) 1 1))) w') => clock_c LV _ w' (hMw.out.ext hX) hin (by omega))
  have hev := hide (fun w' (hX : Ext ((w.alloc oF5).alloc (oFm (.slice (some ⟨w.heap.size, 0, none⟩) 1 1))) w') => events_c LV _ w' (hMw.out.ext hX) hin (by omega))
  have htb := hide (fun w' (hX : Ext ((w.alloc oF5).alloc (oFm (.slice (some ⟨w.heap.size, 0, none⟩) 1 1))) w') => table_c LV _ w' (hMw.out.ext hX) hin (by omega))
  rw [hpm] at han hck hev htb
  rw [runE_lv] at han
  rw [clk_lv] at hck
  rw [ppE_lv, ppR_lv] at htb
  clear hM0 hin hpm hll hLV
  go_enter Tryz.func9, Tryz.ntmps9
  go_wp2_with (first
    | (go_at_call 10; (refine (han.out _ (Ext.refl _)).mono ?_; rintro ee w2 ⟨sv, rfl, ho, hX2⟩; obtain ⟨g, cap, cur, e1, hb, hg, hn⟩ : ∃ g cap cur, sv = .slice (some ⟨g, 0, none⟩) 4 cap ∧ g < w2.heap.size ∧ w2.heap[g]? = some (.cells cur 35) ∧ 4 ≤ cap := (by rcases ho.2 with ⟨-, h2⟩ | ⟨g, cap, cur, e1, hb, hg, hn, -⟩; exact absurd h2 (by decide); exact ⟨g, cap, cur, e1, lt_of_block hg, hg, hn⟩); subst e1; have a0 := ho.cells (g := g) rfl 0 _ rfl; have a1 := ho.cells (g := g) rfl 1 _ rfl; have a2 := ho.cells (g := g) rfl 2 _ rfl; have a3 := ho.cells (g := g) rfl 3 _ rfl; rw [add_plain, Nat.zero_add] at a0 a1 a2 a3; haveI : In g w2 := ⟨hb⟩; replace hX2 := hide hX2; clear ho hg))
    | (go_at_call 18; (refine (htb.out w2 hX2.out).mono ?_; rintro ee w3 ⟨v3, M3, rfl, hM3, ho3, hX3⟩; obtain ⟨x, rfl, hx⟩ : ∃ x : Ve, M3 = [x] ∧ x.2 = (r5F, (2, 4)) := ed_one hM3; obtain ⟨A3, c3, e3, -, -, hat⟩ := ew_form ho3.ew; subst e3; obtain ⟨b3, o3, rfl, -, hb3, p0, p1, p2⟩ := hat 0 x rfl; rw [hx] at p1 p2; simp only [Nat.zero_mul, Nat.add_zero] at p0 p1 p2; have b0 := cell_later hX3 a0; have b1 := cell_later hX3 a1; have b2 := cell_later hX3 a2; have b3' := cell_later hX3 a3; have bl := block_lt_of_cell b0; haveI : In g w3 := ⟨bl⟩; haveI : In b3 w3 := ⟨hb3⟩; have hX3' := hide (hX2.out.trans hX3); clear hM3 ho3 hat hX3))
    | (go_at_call 12; first | ((with_reducible refine seq_gw' (hck.out w3 hX3'.out) ?_); intro g4) | ((with_reducible refine seq_gw (hck.out w3 hX3'.out) ?_); intro g4))
    | (go_at_call 15; (refine (hev.out g4.val (hX3'.out.trans g4.grown)).mono ?_; rintro ee w5 ⟨v5, M5, rfl, ho5, hM5, hX5⟩; have hl5 : M5.length = 1 := (by have := congrArg List.length hM5; rw [List.length_map, evn_lv] at this; exact this); obtain ⟨A5, c5, e5⟩ := ho5.form; rw [hl5] at e5; subst e5; have hX5' := hide (hX3'.out.trans (g4.grown.trans hX5)); clear ho5 hM5 hX5)))
  go_returns
  exact ⟨by first | rfl | simp, (((Ext.refl w).alloc _).alloc _).trans hX5'.out⟩
end Go.Proofs.YtiknkcadbaeknaaGreat
set_option linter.unusedVariables false
set_option linter.unusedSimpArgs false
namespace Go.Proofs.YtiknkcadbaeknaaGreat
open Go.RowKit
attribute [local go_sem] GW.cell GW.frozen In.eq_true In.le_true In.ne In.ne' In.ne_add In.ne_add' In.lt_add Upto.le_true Upto.le_add Upto.lt_add
def evD (v : Value) (e : Ev) : List Value := [.int .i64 e.1.1, v, .int .i64 e.2.1.1, .int .i64 e.2.1.2]
abbrev OwnEv := OwnX 48 4 evD (fun e : Ev => e.1.2)
abbrev Lv := Value × Ev
def gnO (L : List Lv) : List Value := L.map fun p => .bool p.2.2.2
/-- The document's state: its block, its events, which of them are gone. -/
structure Sd (w : World) (base r : Nat) (S : StD) (ev gv : Value) (L : List Lv) : Prop where
  ob : Ob w r 34 [.int .i64 S.1, ev, gv]
  own : OwnEv w base ev L
  gone : w.ownsRow base 4 1 gv L.length (gnO L)
  evs : L.map Prod.snd = S.2
  rb : base ≤ r
theorem Sd.ext {w w' : World} {base r : Nat} {S : StD} {ev gv : Value} {L : List Lv} (h : Sd w base r S ev gv L) (k : Ext w w') : Sd w' base r S ev gv L := ⟨h.ob.ext k, h.own.ext k, own_ext h.gone k, h.evs, h.rb⟩
theorem evd_get : ∀ (L : List Lv) (i : Nat) (p : Lv), L[i]? = some p → ∀ j u, (evD p.1 p.2)[j]? = some u → (L.flatMap fun p => evD p.1 p.2)[i * 4 + j]? = some u
  | q :: r, 0, p, h, j, u, hu => by
    simp at h; subst h
    have hj : j < (evD q.1 q.2).length := (List.getElem?_eq_some_iff.1 hu).1
    rw [List.flatMap_cons, List.getElem?_append_left (by omega), show 0 * 4 + j = j by omega]; exact hu
  | q :: r, i + 1, p, h, j, u, hu => by
    have := evd_get r i p (by simpa using h) j u hu
    rw [List.flatMap_cons, show (i + 1) * 4 + j = (evD q.1 q.2).length + (i * 4 + j) by simp [evD]; omega, List.getElem?_append_right (by omega), Nat.add_sub_cancel_left]
    exact this
/-- An event's cells, and whether it is gone. -/
theorem Sd.at {w : World} {base r : Nat} {S : StD} {ev gv : Value} {L : List Lv} (h : Sd w base r S ev gv L) {k : Nat} {p : Lv} (hp : L[k]? = some p) : ∃ g cap g2 cap2 PA pc, ev = .slice (some ⟨g, 0, none⟩) L.length cap ∧ gv = .slice (some ⟨g2, 0, none⟩) L.length cap2 ∧ g < w.heap.size ∧ g2 < w.heap.size ∧ p.1 = .slice PA p.2.1.2.length pc ∧ w.cell? ⟨g, k * 4, none⟩ = some (.int .i64 p.2.1.1) ∧ w.cell? ⟨g, k * 4 + 1, none⟩ = some p.1 ∧ w.cell? ⟨g, k * 4 + 2, none⟩ = some (.int .i64 p.2.2.1.1) ∧ w.cell? ⟨g, k * 4 + 3, none⟩ = some (.int .i64 p.2.2.1.2) ∧ w.cell? ⟨g2, k, none⟩ = some (.bool p.2.2.2) := by
  have hk : k < L.length := (List.getElem?_eq_some_iff.1 hp).1
  obtain ⟨PA, pc, e⟩ := rwo_val (h.own.2 p (List.mem_of_getElem? hp))
  rcases h.own.1.2 with ⟨-, h2⟩ | ⟨g, cap, cur, rfl, hb, hg, -⟩
  · omega
  rcases h.gone.2 with ⟨-, h2⟩ | ⟨g2, cap2, cur2, rfl, hb2, hg2, -⟩
  · omega
  have c0 := h.own.1.cells (g := g) rfl (k * 4 + 0) _ (evd_get L k p hp 0 _ rfl)
  have c1 := h.own.1.cells (g := g) rfl (k * 4 + 1) _ (evd_get L k p hp 1 _ rfl)
  have c2 := h.own.1.cells (g := g) rfl (k * 4 + 2) _ (evd_get L k p hp 2 _ rfl)
  have c3 := h.own.1.cells (g := g) rfl (k * 4 + 3) _ (evd_get L k p hp 3 _ rfl)
  have c4 := h.gone.cells (g := g2) rfl k (.bool p.2.2.2) (by unfold gnO; rw [List.getElem?_map, hp]; rfl)
  rw [add_plain, Nat.zero_add] at c0 c1 c2 c3 c4
  exact ⟨g, cap, g2, cap2, PA, pc, rfl, rfl, block_lt_of_cell c0, block_lt_of_cell c4, e, c0, c1, c2, c3, c4⟩
def fndI (c id : Int) (k : Nat) (l : List Ev) : Int := match kn c id k l with
  | none => -1
  | some x => x.1
theorem fnd_cons {c id : Int} {k : Nat} {l : List Ev} {e : Ev} (h : l[k]? = some e) : fndI c id k (l.drop k) = if liveE c id e = true then (k : Int) else fndI c id (k + 1) (l.drop (k + 1)) := by
  obtain ⟨h1, h2⟩ := List.getElem?_eq_some_iff.1 h
  rw [List.drop_eq_getElem_cons h1, h2]
  unfold fndI
  rw [kn]
  cases liveE c id e <;> rfl
set_option maxHeartbeats 8000000 in
set_option maxRecDepth 100000 in
theorem refFind_c (base r : Nat) (S : StD) (ev gv : Value) (L : List Lv) (id : Int) (w : World) (h : Sd w base r S ev gv L) (hn : L.length ≤ 200000) : Calls Tryz.prog 36 #[.pointer (some ⟨r, 0, none⟩), .int .i64 id] w fun e w' => e = .returned (.int .i64 (fndI S.1 id 0 S.2)) ∧ Ext w w' := by
  obtain ⟨A, cap, rfl⟩ := h.own.form
  obtain ⟨A2, cap2, rfl⟩ := own_form h.gone
  have hlt := h.ob.lt
  have c0 := hide (h.ob.cell 0 rfl)
  have c1 := hide (h.ob.cell 1 rfl)
  have c2 := hide (h.ob.cell 2 rfl)
  replace h := hide h
  obtain ⟨R, hR⟩ : ∃ R, R = fndI S.1 id 0 S.2 := ⟨_, rfl⟩
  rw [← hR]
  replace hR := hide hR
  go_enter Tryz.func36, Tryz.ntmps36
  go_wp2_with fail
  go_loopg [5] L.length (fun gh i wr => ∃ (k : Nat), i = .int .i64 k ∧ k + gh = L.length ∧ Hid (R = fndI S.1 id k (S.2.drop k)) ∧ Ext w wr)
  case atStart => exact ⟨0, rfl, by omega, by simpa using hR, Ext.refl w⟩
  case round =>
    obtain ⟨k, rfl, hk, hRk, hX⟩ := hrel
    clear hR
    have k0 := cell_later hX c0.out
    have k1 := cell_later hX c1.out
    have k2 := cell_later hX c2.out
    have hrl := block_lt_of_cell k0
    haveI : In r wr := ⟨hrl⟩
    by_cases hlt2 : k < L.length
    · have hltI : (k : Int) < L.length := by omega
      obtain ⟨p, hp⟩ : ∃ p, L[k]? = some p := ⟨_, List.getElem?_eq_getElem hlt2⟩
      obtain ⟨g, cap', g2, cap2', PA, pc, e1, e2, hgl, hgl2, e3, q0, q1, q2, q3, q4⟩ := (h.out.ext hX).at hp
      cases e1; cases e2
      haveI : In g wr := ⟨hgl⟩
      haveI : In g2 wr := ⟨hgl2⟩
      have hep : S.2[k]? = some p.2 := by rw [← h.out.evs, List.getElem?_map, hp]; rfl
      have hR2 := hRk.out
      rw [fnd_cons hep] at hR2
      obtain ⟨pv, ⟨pi, pr⟩, ⟨p1, p2⟩, pg⟩ := p
      simp only at q0 q1 q2 q3 q4 hR2 e3
      obtain ⟨S1, S2⟩ := S
      simp only at *
      clear hp hep hRk
      by_cases hid : pi = id
      · subst hid
        cases pg
        · by_cases hc : S1 < p2
          · have hl : liveE S1 pi ((pi, pr), (p1, p2), false) = true := live_iff.2 ⟨rfl, rfl, hc⟩
            rw [if_pos hl] at hR2
            replace hR2 := hide hR2
            have dc : decide (S1 < p2) = true := decide_eq_true hc
            go_wp2_with fail
            refine wp_region_gw (by kernel_rfl) (by kernel_rfl) ?_
            repeat (go_big_quiet_step (fail))
            refine wpQuiet_nil ?_
            intro g5
            go_wp2_with fail
            go_returns
            exact ⟨by rw [hR2.out]; rfl, hX.trans (by first | exact g5.grown | exact Gn.ext)⟩
          · have hl : liveE S1 pi ((pi, pr), (p1, p2), false) = false := by cases hq : liveE S1 pi ((pi, pr), (p1, p2), false); rfl; exact absurd (live_iff.1 hq).2.2 hc
            rw [hl, if_neg (by decide)] at hR2
            replace hR2 := hide hR2
            have dc : decide (S1 < p2) = false := decide_eq_false hc
            go_wp2_with fail
            refine wp_region_gw (by kernel_rfl) (by kernel_rfl) ?_
            repeat (go_big_quiet_step (fail))
            refine wpQuiet_nil ?_
            intro g5
            go_wp2_with fail
            go_roundg (L.length - (k + 1))
            case measure => omega
            case rel => exact ⟨k + 1, by go_num, by omega, hR2, hX.trans (by first | exact g5.grown | exact Gn.ext)⟩
        · have hl : liveE S1 pi ((pi, pr), (p1, p2), true) = false := by cases hq : liveE S1 pi ((pi, pr), (p1, p2), true); rfl; exact absurd (live_iff.1 hq).2.1 (by simp)
          rw [hl, if_neg (by decide)] at hR2
          replace hR2 := hide hR2
          go_wp2_with fail
          refine wp_region_gw (by kernel_rfl) (by kernel_rfl) ?_
          repeat (go_big_quiet_step (fail))
          refine wpQuiet_nil ?_
          intro g5
          go_wp2_with fail
          go_roundg (L.length - (k + 1))
          case measure => omega
          case rel => exact ⟨k + 1, by go_num, by omega, hR2, hX.trans (by first | exact g5.grown | exact Gn.ext)⟩
      · have hl : liveE S1 id ((pi, pr), (p1, p2), pg) = false := by cases hq : liveE S1 id ((pi, pr), (p1, p2), pg); rfl; exact absurd (live_iff.1 hq).1 hid
        rw [hl, if_neg (by decide)] at hR2
        replace hR2 := hide hR2
        have i0 : (pi == id) = false := by simp [hid]
        go_wp2_with fail
        refine wp_region_gw (by kernel_rfl) (by kernel_rfl) ?_
        repeat (go_big_quiet_step (fail))
        refine wpQuiet_nil ?_
        intro g5
        go_wp2_with fail
        go_roundg (L.length - (k + 1))
        case measure => omega
        case rel => exact ⟨k + 1, by go_num, by omega, hR2, hX.trans (by first | exact g5.grown | exact Gn.ext)⟩
    · have hke : k = L.length := by omega
      have hge : (L.length : Int) ≤ k := by omega
      have dk : decide ((k : Int) < L.length) = false := decide_eq_false (by omega)
      have hRn : Hid (R = -1) := by
        show _ = _
        have hl : S.2.length = L.length := by rw [← h.out.evs, List.length_map]
        rw [hRk.out, hke, ← hl, List.drop_length]; rfl
      clear hRk h
      go_wp2_with fail
      go_returns
      exact ⟨by rw [hRn.out]; rfl, hX⟩
end Go.Proofs.YtiknkcadbaeknaaGreat
