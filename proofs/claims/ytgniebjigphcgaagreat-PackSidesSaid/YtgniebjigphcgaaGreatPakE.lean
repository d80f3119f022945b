/-
  A helper of ours: no claim of its own. Layer 11 (pack): the edges of the table of pieces, by the code.
-/
import Derived.Test.YtgniebjigphcgaaGreatEdgB
import Derived.Lib.AppendZerosOnto
import Derived.Lib.LazyBuf
import Derived.WalkLawsBesides
import Derived.Test.YtgniebjigphcgaaGreatEdgN
import Derived.Test.YtgniebjigphcgaaGreatEdgM
import Derived.Test.YtgniebjigphcgaaGreatSpanA
import Derived.Test.YtgniebjigphcgaaGreatPakP
set_option linter.unusedVariables false
set_option linter.unusedSimpArgs false
namespace Go.Proofs.YtgniebjigphcgaaGreat
open Go.RowKit
attribute [local go_sem] GW.cell GW.frozen In.eq_true In.le_true In.ne In.ne' In.ne_add In.ne_add' In.lt_add Upto.le_true Upto.le_add Upto.lt_add
end Go.Proofs.YtgniebjigphcgaaGreat
set_option linter.unusedVariables false
set_option linter.unusedSimpArgs false
namespace Go.Proofs.YtgniebjigphcgaaGreat
open Go.RowKit
attribute [local go_sem] GW.cell GW.frozen In.eq_true In.le_true In.ne In.ne' In.ne_add In.ne_add' In.lt_add Upto.le_true Upto.le_add Upto.lt_add
theorem jmps_le (l : List Ed) (r : List Vl) : (jmps l r).length ≤ l.length := by unfold jmps; rw [List.length_map]; exact List.length_filter_le _ _
theorem mayE_len {l : List Ed} (h : mayE l = true) : l.length ≤ 4096 := (mayE_iff.1 h).1
theorem mayE_jl {l : List Ed} (h : mayE l = true) (r : List Vl) : (jmps l r).length ≤ 1024 := by
  obtain ⟨-, h2, h3⟩ := mayE_iff.1 h
  obtain ⟨-, k2⟩ := rowsL_ok h2.1
  by_cases hr : r ∈ rowsL l
  · have := h3 (r, jmps l r) (by rw [grp_eq h2]; exact List.mem_map.2 ⟨r, hr, rfl⟩)
    exact mayJ_len this
  · have : jmps l r = [] := by
      apply List.eq_nil_iff_forall_not_mem.2
      intro j hj
      exact hr ((k2 r).2 ⟨_, jmps_mem.1 hj, rfl⟩)
    rw [this]; simp
theorem lit2 (u : Value) (r : List Vl) (j k : Jp) (w : World) (h : Rw w [] u r) : Ew (w.alloc (.cells #[u, .int .i64 j.1, .int .i64 j.2, u, .int .i64 k.1, .int .i64 k.2] 71)) [] (.slice (some ⟨w.heap.size, 0, none⟩) 2 2) [(u, r, j), (u, r, k)] := by
  refine ⟨Sl.own (World.ownsRow_lit (base := w.heap.size) (e := 71) (size := 3) w #[u, .int .i64 j.1, .int .i64 j.2, u, .int .i64 k.1, .int .i64 k.2] 2 (Nat.le_refl _) (by decide) rfl) (by simp), fun p hp => ?_⟩
  simp only [List.mem_cons, List.not_mem_nil, or_false] at hp
  rcases hp with rfl | rfl <;> exact Sl.ext h ((Ext.refl w).alloc _)
/-- A row once, from one tick to another. -/
def ofE (r : List Vl) (f t : Int) : Int := if mayR r then (if smayB f t then neE [(r, (f, 1)), (r, (t, -1))] else 14) else 2
def ofR (r : List Vl) (f t : Int) : List Ed := if ofE r f t = 0 then neR [(r, (f, 1)), (r, (t, -1))] else []
theorem neR_bad {l : List Ed} (h : neE l ≠ 0) : neR l = [] := by unfold neR; rw [if_neg h]
/-- A sum. -/
def adE (a b : List Ed) : Int := if mayE a && mayE b then neE (a ++ b) else 2
def adR (a b : List Ed) : List Ed := if adE a b = 0 then neR (a ++ b) else []
end Go.Proofs.YtgniebjigphcgaaGreat
set_option linter.unusedVariables false
set_option linter.unusedSimpArgs false
namespace Go.Proofs.YtgniebjigphcgaaGreat
open Go.RowKit
attribute [local go_sem] GW.cell GW.frozen In.eq_true In.le_true In.ne In.ne' In.ne_add In.ne_add' In.lt_add Upto.le_true Upto.le_add Upto.lt_add
/-- Both ends of each piece. -/
def endsE (l : List Ed) : List Ed := l.flatMap fun e => [(e.1, (e.2.1, 1)), (e.1, (e.2.2, -1))]
def endsV (L : List Ve) : List Ve := L.flatMap fun p => [(p.1, p.2.1, (p.2.2.1, 1)), (p.1, p.2.1, (p.2.2.2, -1))]
theorem endsV_eds (L : List Ve) : eds (endsV L) = endsE (eds L) := by
  induction L with
  | nil => rfl
  | cons p r ih =>
    unfold endsV endsE eds at ih ⊢
    rw [List.flatMap_cons, List.map_append, ih]
    rfl
theorem endsV_len (L : List Ve) : (endsV L).length = 2 * L.length := by
  induction L with
  | nil => rfl
  | cons p r ih =>
    unfold endsV at ih ⊢
    rw [List.flatMap_cons, List.length_append, ih, List.length_cons]
    simp only [List.length_cons, List.length_nil]
    omega
theorem endsV_snoc (L : List Ve) (p : Ve) : endsV (L ++ [p]) = endsV L ++ [(p.1, p.2.1, (p.2.2.1, 1)), (p.1, p.2.1, (p.2.2.2, -1))] := by simp [endsV]
theorem endsV_mem {L : List Ve} {q : Ve} (h : q ∈ endsV L) : ∃ p ∈ L, q.1 = p.1 ∧ q.2.1 = p.2.1 := by
  obtain ⟨p, hp, h⟩ := List.mem_flatMap.1 h
  simp only [List.mem_cons, List.not_mem_nil, or_false] at h
  rcases h with rfl | rfl <;> exact ⟨p, hp, rfl, rfl⟩
/-- What is wrong with pieces whose edges are asked for; they. -/
def pkE (l : List Ed) : Int := if l.all mayPc then (if 4096 < l.length then 7 else neE (endsE l)) else 2
def pkR (l : List Ed) : List Ed := if pkE l = 0 then neR (endsE l) else []
set_option maxHeartbeats 4000000 in
set_option maxRecDepth 100000 in
theorem packEdges_c (L : List Ve) (hL : L.length ≤ 4096) (v : Value) (w : World) (h : Ew w [] v L) : Calls Tryz.prog 17 #[v] w fun e w' => ∃ v' M, e = .returned (.tuple #[v', .int .i64 (pkE (eds L))]) ∧ eds M = pkR (eds L) ∧ OwnEr w' w.heap.size v' M ∧ Ext w w' := by
  have hcc := hide (containsPc_c L v w h)
  have hall : L.all (fun x : Ve => mayPc x.2) = (eds L).all mayPc := by simp [eds, List.all_map]; rfl
  rw [hall] at hcc
  obtain ⟨A, cap, rfl, hlc, hlm, hat⟩ := ew_form h
  unfold maxLen at hlm
  have hv := hide h
  replace hat := hide hat
  obtain ⟨E, hE⟩ : ∃ E, E = pkE (eds L) := ⟨_, rfl⟩
  obtain ⟨R, hR⟩ : ∃ R, R = pkR (eds L) := ⟨_, rfl⟩
  rw [← hE, ← hR]
  unfold pkR at hR
  rw [← hE] at hR
  unfold pkE at hE
  clear h hall
  cases ha : (eds L).all mayPc
  · rw [ha] at hcc hE
    rw [if_neg (by decide)] at hE
    subst hE
    replace hR : R = [] := by rw [hR, if_neg (by decide)]
    replace hR := hide hR
    clear hat
    go_enter Tryz.func17, Tryz.ntmps17
    go_wp2_with (go_at_call 49; (with_reducible refine seq_gw hcc.out ?_); intro g)
    go_returns
    exact ⟨_, [], rfl, by rw [hR.out]; rfl, OwnEr.nil _ _, g.grown⟩
  rw [ha] at hcc hE
  rw [if_pos rfl, if_neg (by simp [eds]; omega)] at hE
  have hR2 : Hid (R = neR (endsE (eds L))) := by
    show R = _
    rw [hR]
    split
    · rfl
    · rename_i h; rw [hE] at h; rw [neR_bad h]
  replace hE := hide hE
  clear hR ha
  have hLI : (L.length : Int) ≤ 4096 := by omega
  go_enter Tryz.func17, Tryz.ntmps17
  go_wp2_with (go_at_call 49; (with_reducible refine seq_gw hcc.out ?_); intro g)
  have hXg := hide g.grown
  go_loopg [4, 14] L.length (fun gh vv i wr => ∃ (k : Nat), i = .int .i64 k ∧ k + gh = L.length ∧ OwnE wr w.heap.size vv (endsV (L.take k)) ∧ Ext w wr)
  case atStart => exact ⟨0, rfl, by omega, World.ownsRow_nil _ _ _ _, hXg.out⟩
  case round =>
    obtain ⟨k, rfl, hk, ho, hX⟩ := hrel
    clear hXg
    have hzX := hX.size
    by_cases hlt : k < L.length
    · obtain ⟨x, hx⟩ : ∃ x, L[k]? = some x := ⟨_, List.getElem?_eq_getElem hlt⟩
      obtain ⟨b, o, rfl, -, hb, c0, c1, c2⟩ := hat.out k x hx
      have k0 := cell_later hX c0
      have k1 := cell_later hX c1
      have k2 := cell_later hX c2
      have hbr : b < wr.heap.size := block_lt_of_cell k0
      have hrw := Sl.ext (hv.out.2 x (List.mem_of_getElem? hx)) hX
      have hnx := hide (show endsV (L.take (k + 1)) = endsV (L.take k) ++ [(x.1, x.2.1, (x.2.2.1, 1)), (x.1, x.2.1, (x.2.2.2, -1))] by rw [List.take_add_one, hx, Option.toList_some, endsV_snoc])
      have hel : (endsV (L.take k)).length ≤ 2 * k := by rw [endsV_len, List.length_take]; omega
      obtain ⟨xv, xq, xa, xn⟩ := x
      simp only at k0 k1 k2 hrw hnx
      have hrw2 := hide hrw
      obtain ⟨XA, xcap, rfl⟩ := rw_val hrw
      obtain ⟨Q, hQ⟩ : ∃ Q, Q = endsV (L.take k) := ⟨_, rfl⟩
      rw [← hQ] at ho hnx hel
      replace hQ := hide hQ
      obtain ⟨C, ccap, rfl⟩ := own_form ho
      have ho0 := hide ho
      clear c0 c1 c2 hat hx hrw hv ho
      have hone := lit2 (.slice XA xq.length xcap) xq (xa, 1) (xn, -1) (wr.alloc (.cells #[.slice XA xq.length xcap, .int .i64 xa, .int .i64 xn] 48)) (Sl.ext hrw2.out ((Ext.refl wr).alloc _))
      simp only [World.size_alloc] at hone
      replace hone := hide hone
      have hX2 : Ext wr ((wr.alloc (.cells #[.slice XA xq.length xcap, .int .i64 xa, .int .i64 xn] 48)).alloc (.cells #[.slice XA xq.length xcap, .int .i64 xa, .int .i64 1, .slice XA xq.length xcap, .int .i64 xn, .int .i64 (-1)] 71)) := ((Ext.refl wr).alloc _).alloc _
      have e1 : Q.length + 2 ≤ maxLen := by unfold maxLen; omega
      have e2 : (Q.length + 2) * 40 ≤ 140737488355328 := by omega
      have e3 := Nat.le_trans hX.size hX2.size
      replace e1 := hide e1
      replace e2 := hide e2
      replace e3 := hide e3
      have hsl : Sl _ [] 3 _ 2 _ := hone.out.1
      replace hsl := hide hsl
      replace hX2 := hide hX2
      go_wp2_with (at_builtin; (refine wpl_app tEdg rfl (.tmp 18) (.tmp 31) rfl rfl (own_ext ho0.out hX2.out) rfl (src_sl Tryz.underlying32 hsl.out (Ew.one hone.out) (by omega)) e1.out e2.out e3.out ?_; intro v8 w8 ho8 hg8 hob8; have hX8 := hide (ext_grown (hX.trans hX2.out) hg8 (fun q hq => (ho0.out.lt q hq).1))))
      go_roundg (L.length - (k + 1))
      case measure => omega
      case rel => exact ⟨k + 1, by go_num, by omega, by rw [hnx.out]; exact own_appE ho8, hX8.out⟩
    · have hk' : k = L.length := by omega
      have hge : (L.length : Int) ≤ k := by omega
      rw [hk', List.take_length] at ho
      replace hk' := hide hk'
      have hM : Ew wr [] u4 (endsV L) := ⟨Sl.own ho (by simp), fun p hp => by
        obtain ⟨q, hq, e1, e2⟩ := endsV_mem hp
        rw [e1, e2]
        exact Sl.ext (hv.out.2 q hq) hX⟩
      have hn := hide (edgeNorm_c (endsV L) (by rw [endsV_len]; omega) (fun q => Nat.le_trans (jmps_le _ q) (by rw [eds, List.length_map, endsV_len]; omega)) u4 wr hM)
      rw [endsV_eds] at hn
      obtain ⟨C, ccap, rfl⟩ := own_form ho
      clear hat hM ho hv
      go_wp2_with (go_at_call 51; refine hn.out.mono ?_; rintro ee w3 ⟨v3, M, rfl, hM, ho3, hX3⟩)
      go_returns
      exact ⟨_, M, by rw [hE.out]; rfl, by rw [hM, hR2.out], ho3.lower hzX, hX.trans hX3⟩
end Go.Proofs.YtgniebjigphcgaaGreat
