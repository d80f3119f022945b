/-
  A helper of ours: no claim of its own. Layer 30 (window): windows ahead of a tick, by the document.
-/
import Derived.Test.YtljkneajdndgjaaGreatStepE
import Derived.Test.YtljkneajdndgjaaGreatHopF1
import Derived.Test.YtljkneajdndgjaaGreatHopT
import Derived.Test.YtljkneajdndgjaaGreatEdgRo
import Derived.Test.YtljkneajdndgjaaGreatSnaS
import Derived.Test.YtljkneajdndgjaaGreatWinB
set_option linter.unusedVariables false
set_option linter.unusedSimpArgs false
namespace Go.Proofs.YtljkneajdndgjaaGreat
open Go.RowKit
attribute [local go_sem] GW.cell GW.frozen In.eq_true In.le_true In.ne In.ne' In.ne_add In.ne_add' In.lt_add Upto.le_true Upto.le_add Upto.lt_add
set_option maxHeartbeats 8000000 in
set_option maxRecDepth 100000 in
theorem refEdgeSame_c {L M : List Ve} {v u : Value} {w : World} (hl : Ew w [] v L) (hm : Ew w [] u M) : Calls Tryz.prog 20 #[v, u] w fun e w' => e = .returned (.bool (decide (eds L = eds M))) ∧ Ext w w' := by
  obtain ⟨A, cap, rfl, hlc, hlm, hat⟩ := ew_form hl
  obtain ⟨B, cap2, rfl, hmc, hmm, hbt⟩ := ew_form hm
  unfold maxLen at hlm hmm
  have hrl := hide hl.2
  have hrm := hide hm.2
  clear hl hm
  replace hat := hide hat
  replace hbt := hide hbt
  obtain ⟨R, hR⟩ : ∃ R, R = decide (eds L = eds M) := ⟨_, rfl⟩
  rw [← hR]
  rw [← eqP_eds] at hR
  by_cases hn : L.length = M.length
  · replace hR := hide hR
    obtain ⟨n, hln⟩ : ∃ n, n = L.length := ⟨_, rfl⟩
    have hmn : n = M.length := by omega
    rw [← hln] at hlc ⊢
    rw [← hmn] at hmc ⊢
    have hlI := hide hln
    have hmI := hide hmn
    clear hn hln hmn
    go_enter Tryz.func20, Tryz.ntmps20
    go_wp2_with fail
    go_loopg [5] n (fun gh i wr => ∃ (k : Nat), i = .int .i64 k ∧ k + gh = n ∧ Hid (R = eqP (fun x y : Ve => decide (x.2 = y.2)) (L.drop k) (M.drop k)) ∧ Ext w wr)
    case atStart => exact ⟨0, rfl, by omega, hR, Ext.refl w⟩
    case round =>
      obtain ⟨k, rfl, hk, hRk, hX⟩ := hrel
      clear hR
      by_cases hlt : k < n
      · obtain ⟨x, hx⟩ : ∃ x, L[k]? = some x := ⟨_, List.getElem?_eq_getElem (by have := hlI.out; omega)⟩
        obtain ⟨y, hy⟩ : ∃ y, M[k]? = some y := ⟨_, List.getElem?_eq_getElem (by have := hmI.out; omega)⟩
        obtain ⟨b, o, rfl, -, hb, c0, c1, c2⟩ := hat.out k x hx
        obtain ⟨b', o', rfl, -, hb', d0, d1, d2⟩ := hbt.out k y hy
        have k0 := cell_later hX c0
        have k1 := cell_later hX c1
        have k2 := cell_later hX c2
        have j0 := cell_later hX d0
        have j1 := cell_later hX d1
        have j2 := cell_later hX d2
        have hbr : b < wr.heap.size := block_lt_of_cell k0
        have hbr' : b' < wr.heap.size := block_lt_of_cell j0
        haveI : In b wr := ⟨hbr⟩
        haveI : In b' wr := ⟨hbr'⟩
        have hrx := Sl.ext (hrl.out x (List.mem_of_getElem? hx)) hX
        have hry := Sl.ext (hrm.out y (List.mem_of_getElem? hy)) hX
        have hR2 := hRk.out
        rw [drop_cons hx, drop_cons hy] at hR2
        obtain ⟨xv, xq, xa, xn⟩ := x
        obtain ⟨yv, yq, ya, yn⟩ := y
        simp only at k0 k1 k2 j0 j1 j2 hrx hry
        have hq := hide (fun w' (hXw : Ext wr w') => refRowSame_c (Sl.ext hrx hXw) (Sl.ext hry hXw))
        obtain ⟨XA, xcap, rfl⟩ := rw_val hrx
        obtain ⟨YA, ycap, rfl⟩ := rw_val hry
        have hyes : Hid ((xq, (xa, xn)) = (yq, (ya, yn)) → R = eqP (fun x y : Ve => decide (x.2 = y.2)) (L.drop (k + 1)) (M.drop (k + 1))) := fun h => by
          rw [hR2]; exact eqP_yes (p := (fun x y : Ve => decide (x.2 = y.2))) (x := (.slice XA xq.length xcap, xq, xa, xn)) (y := (.slice YA yq.length ycap, yq, ya, yn)) (decide_eq_true h)
        have hno : Hid ((xq, (xa, xn)) ≠ (yq, (ya, yn)) → R = false) := fun h => by
          rw [hR2]; exact eqP_no (p := (fun x y : Ve => decide (x.2 = y.2))) (x := (.slice XA xq.length xcap, xq, xa, xn)) (y := (.slice YA yq.length ycap, yq, ya, yn)) (decide_eq_false h)
        clear c0 c1 c2 d0 d1 d2 hat hbt hx hy hlI hmI hRk hrx hry hrl hrm hR2
        by_cases e1 : xa = ya
        · by_cases e2 : xn = yn
          · subst e1; subst e2
            by_cases e3 : xq = yq
            · have hf := hide (hyes.out (by rw [e3]))
              rw [decide_eq_true e3] at hq
              have b1 : (xa != xa) = false := by simp
              have b2 : (xn != xn) = false := by simp
              replace e3 := hide e3
              clear hyes hno
              go_wp2_with fail
              refine wp_region_gw (by kernel_rfl) (by kernel_rfl) ?_
              repeat (go_big_quiet_step ((go_at_call 49; with_reducible exact quiet_gw (hq.out _ (GW.grown _)))))
              refine wpQuiet_nil ?_
              intro g
              go_wp2_with fail
              go_roundg (n - (k + 1))
              case measure => omega
              case rel => exact ⟨k + 1, by go_num, by omega, hf, hX.trans g.grown⟩
            · have hf := hide (hno.out (fun h => e3 (Prod.mk.inj h).1))
              rw [decide_eq_false e3] at hq
              have b1 : (xa != xa) = false := by simp
              have b2 : (xn != xn) = false := by simp
              replace e3 := hide e3
              clear hyes hno
              go_wp2_with fail
              refine wp_region_gw (by kernel_rfl) (by kernel_rfl) ?_
              repeat (go_big_quiet_step ((go_at_call 49; with_reducible exact quiet_gw (hq.out _ (GW.grown _)))))
              refine wpQuiet_nil ?_
              intro g
              go_wp2_with fail
              go_returns
              exact ⟨by rw [hf.out]; rfl, hX.trans g.grown⟩
          · subst e1
            have hf := hide (hno.out (fun h => e2 (Prod.mk.inj (Prod.mk.inj h).2).2))
            have b1 : (xa != xa) = false := by simp
            have b2 : (xn != yn) = true := by simp [e2]
            replace e2 := hide e2
            clear hyes hno hq
            go_wp2_with fail
            refine wp_region_gw (by kernel_rfl) (by kernel_rfl) ?_
            repeat (go_big_quiet_step (fail))
            refine wpQuiet_nil ?_
            intro g
            go_wp2_with fail
            go_returns
            exact ⟨by rw [hf.out]; rfl, hX.trans g.grown⟩
        · have hf := hide (hno.out (fun h => e1 (Prod.mk.inj (Prod.mk.inj h).2).1))
          have b1 : (xa != ya) = true := by simp [e1]
          replace e1 := hide e1
          clear hyes hno hq
          go_wp2_with fail
          refine wp_region_gw (by kernel_rfl) (by kernel_rfl) ?_
          repeat (go_big_quiet_step (fail))
          refine wpQuiet_nil ?_
          intro g
          go_wp2_with fail
          go_returns
          exact ⟨by rw [hf.out]; rfl, hX.trans g.grown⟩
      · have hk' : k = n := by omega
        have hge : (n : Int) ≤ k := by omega
        have hR2 := hRk.out
        rw [List.drop_eq_nil_of_le (by have := hlI.out; omega), List.drop_eq_nil_of_le (by have := hmI.out; omega)] at hR2
        replace hR2 : R = true := hR2
        replace hR2 := hide hR2
        replace hk' := hide hk'
        go_wp2_with fail
        go_returns
        exact ⟨by rw [hR2.out]; rfl, hX⟩
  · have hR2 := hR.trans (eqP_len hn)
    replace hR2 := hide hR2
    have hnI : ¬ (L.length : Int) = M.length := by omega
    clear hR hn
    go_enter Tryz.func20, Tryz.ntmps20
    go_wp2_with fail
    go_returns
    exact ⟨by rw [hR2.out]; rfl, Ext.refl w⟩
end Go.Proofs.YtljkneajdndgjaaGreat
set_option linter.unusedVariables false
set_option linter.unusedSimpArgs false
namespace Go.Proofs.YtljkneajdndgjaaGreat
open Go.RowKit
attribute [local go_sem] GW.cell GW.frozen In.eq_true In.le_true In.ne In.ne' In.ne_add In.ne_add' In.lt_add Upto.le_true Upto.le_add Upto.lt_add
theorem hpE_ok {l : List Ed} {s hp f r : Int} (h : hpE l s hp f r = 0) : (hlen s = true ∧ hlen hp = true ∧ mayE l = true) ∧ (htick f = true ∧ htick r = true) ∧ (hkeys s hp f r (grp l)).length ≤ 1024 := by
  unfold hpE at h
  split at h
  case isFalse => exact absurd h (by decide)
  rename_i h1
  split at h
  case isFalse => exact absurd h (by decide)
  split at h
  case isFalse => exact absurd h (by decide)
  rename_i h3
  refine ⟨h1, h3, ?_⟩
  unfold hcE at h
  split at h
  · exact absurd h (by decide)
  · omega
end Go.Proofs.YtljkneajdndgjaaGreat
set_option linter.unusedVariables false
set_option linter.unusedSimpArgs false
namespace Go.Proofs.YtljkneajdndgjaaGreat
open Go.RowKit
attribute [local go_sem] GW.cell GW.frozen In.eq_true In.le_true In.ne In.ne' In.ne_add In.ne_add' In.lt_add Upto.le_true Upto.le_add Upto.lt_add
/-- Parts ahead of a tick, and as far as it. -/
def cutV (P : List Vp) (T : Int) : List Vp := (P.filter fun p => decide (p.2.1.1 < T)).map fun p => (p.1, (p.2.1.1, if T < p.2.1.2 then T else p.2.1.2), p.2.2)
theorem cutV_append (P Q : List Vp) (T : Int) : cutV (P ++ Q) T = cutV P T ++ cutV Q T := by unfold cutV; rw [List.filter_append, List.map_append]
theorem cutV_pts (P : List Vp) (T : Int) : pts (cutV P T) = wahP (pts P) T := by
  unfold cutV wahP
  show List.map (fun p : Vp => (p.2.1, cps p.2.2)) (List.map _ _) = List.map _ (List.filter _ (List.map (fun p : Vp => (p.2.1, cps p.2.2)) P))
  rw [List.map_map, List.filter_map, List.map_map]
  rfl
set_option maxHeartbeats 8000000 in
set_option maxRecDepth 100000 in
theorem refAhead27_c (P : List Vp) (T : Int) (v : Value) (w : World) (h : Pw w [] v P) (hl : P.length ≤ 4096) : Calls Tryz.prog 21 #[v, .int .i64 T] w fun e w' => ∃ v', e = .returned v' ∧ Pw w' [] v' (cutV P T) ∧ Ext w w' := by
  have h' := hide h
  obtain ⟨A, cap, rfl, -, -, -⟩ := pw_form h
  clear h
  have hz0 := hide (World.ownsRow_lit (base := w.heap.size) (e := 52) (size := 3) w #[] 0 (Nat.le_refl _) (by decide) rfl)
  go_enter Tryz.func21, Tryz.ntmps21
  go_wp2_with fail
  go_loopg [5, 6] P.length (fun gh u i wr => ∃ (k : Nat) (Q : List Vp), i = .int .i64 k ∧ k + gh = P.length ∧ Hid (wr.ownsRow w.heap.size 52 3 u Q.length (pt Q)) ∧ Hid (Q = cutV (P.take k) T) ∧ Q.length ≤ k ∧ Hid (Ext w wr))
  case atStart => exact ⟨0, [], by go_num, by omega, hz0, rfl, by simp, (Ext.refl w).alloc _⟩
  case round =>
    clear hz0
    obtain ⟨k, Q, rfl, hk, hO, hQ, hQl, hX⟩ := hrel
    obtain ⟨QA, qcap, rfl⟩ := own_form hO.out
    by_cases hlt : k < P.length
    · obtain ⟨⟨x, ⟨s, z⟩, D⟩, hd⟩ : ∃ p, P[k]? = some p := ⟨_, List.getElem?_eq_getElem hlt⟩
      have hnx := hide (show P.take (k + 1) = P.take k ++ [(x, (s, z), D)] by rw [List.take_add_one, hd]; rfl)
      obtain ⟨A', cap', e', -, -, hat⟩ := pw_form (h'.out.ext hX.out)
      simp only [Value.slice.injEq] at e'
      obtain ⟨rfl, -, rfl⟩ := e'
      obtain ⟨b, o, rfl, -, hbl, d0, d1, d2⟩ := hat k _ hd
      have hD := (h'.out.ext hX.out).2 _ (List.mem_of_getElem? hd)
      simp only at d0 d1 d2 hD
      obtain ⟨DA, dcap, rfl⟩ := cw_val hD
      haveI : In b wr := ⟨hbl⟩
      have hobQ := ob_ge hO.out
      have hzw := hX.out.size
      clear hat hd hD
      go_upto_region 6 with fail
      have hb5 : Ob (wr.alloc (.cells #[.int .i64 s, .int .i64 z, .slice DA D.length dcap] 52)) wr.heap.size 52 [.int .i64 s, .int .i64 z, .slice DA D.length dcap] := Ob.new wr _ [_, _, _]
      have hX5 : Ext wr (wr.alloc (.cells #[.int .i64 s, .int .i64 z, .slice DA D.length dcap] 52)) := (Ext.refl wr).alloc _
      generalize wr.alloc (.cells #[.int .i64 s, .int .i64 z, .slice DA D.length dcap] 52) = W5 at *
      obtain ⟨pb, hpb⟩ : ∃ pb, pb = wr.heap.size := ⟨_, rfl⟩
      rw [← hpb] at hb5 ⊢
      have hpge : wr.heap.size ≤ pb := by omega
      clear hpb d0 d1 d2
      have hl5 := hb5.lt
      haveI : In pb W5 := ⟨hl5⟩
      have n0 := hb5.cell 0 rfl
      have n1 := hb5.cell 1 rfl
      have n2 := hb5.cell 2 rfl
      have f1 := hb5.free 1
      by_cases hzt : T < z
      · go_upto_region 8 with fail
        have hb6 := hide (hb5.set 1 (.int .i64 T))
        have hX6 := hide (hX5.setCell (p := ⟨pb, 1, none⟩) hpge (.int .i64 T))
        clear n0 n1 n2 f1 hb5 hX5
        generalize W5.setCell ⟨pb, 1, none⟩ (.int .i64 T) = W6 at *
        have hl6 := hb6.out.lt
        haveI : In pb W6 := ⟨hl6⟩
        have hO6 := hide (own_ext hO.out hX6.out)
        have m0 := hb6.out.cell 0 rfl
        have m1 := hb6.out.cell 1 rfl
        have m2 := hb6.out.cell 2 rfl
        by_cases h1 : s < T
        · have hsrc := hide (src_sl Tryz.underlying34 (sl_lit W6 52 3 [.int .i64 s, .int .i64 T, .slice DA D.length dcap] rfl) (by intro u hu; simp only [List.mem_cons, List.not_mem_nil, or_false] at hu; rcases hu with rfl | rfl | rfl <;> rfl) (by omega))
          have hbs := hide (own_ext hO6.out ((Ext.refl W6).alloc (.cells #[.int .i64 s, .int .i64 T, .slice DA D.length dcap] 52)))
          have hbz := hide (Nat.le_trans (Nat.le_trans hzw hX6.out.size) ((Ext.refl W6).alloc (.cells #[.int .i64 s, .int .i64 T, .slice DA D.length dcap] 52)).size)
          go_wp2_with (at_builtin; (refine wpl_app tPa rfl (.tmp 32) (.tmp 34) rfl rfl hbs.out rfl hsrc.out (by unfold maxLen; omega) (by omega) hbz.out ?_; intro v8 w8 ho8 hg8 hob8; have ho9 := hide ho8; have hg9 := hide hg8; obtain ⟨A8, c8, q8⟩ := own_form ho8; subst q8; clear ho8 hg8 hob8))
          have hF9 : Fr (ob (.slice QA Q.length qcap)) W6 w8 := ((Fr.refl _ _).alloc _).grown hg9.out (fun j hj => .inl (Option.mem_toList.2 hj))
          go_roundg (P.length - (k + 1))
          case measure => omega
          case rel =>
            refine ⟨k + 1, Q ++ [(Value.slice DA D.length dcap, (s, T), D)], by go_num, by omega, ?_, ?_, by simp; omega, ext_fr (hX.out.trans hX6.out) hF9 (fun y hy => (hobQ y hy).1)⟩
            · have := ho9.out
              show World.ownsRow _ _ _ _ _ _ _
              rw [List.length_append, pt_append]
              simpa [pt, pt1] using this
            · show _ = _
              rw [hnx.out, cutV_append, ← hQ.out]
              first | (simp [cutV, h1, hzt]; done) | (simp [cutV, h1, hzt]; intro hh; omega)
        · go_wp2_with fail
          go_roundg (P.length - (k + 1))
          case measure => omega
          case rel => exact ⟨k + 1, Q, by go_num, by omega, hO6.out, (by show _ = _; rw [hnx.out, cutV_append, ← hQ.out]; simp [cutV, h1]), by omega, hX.out.trans hX6.out⟩
      · go_upto_region 8 with fail
        have hb6 := hide hb5
        have hX6 := hide hX5
        clear n0 n1 n2 f1 hb5 hX5
        generalize W5 = W6 at *
        have hO6 := hide (own_ext hO.out hX6.out)
        have m0 := hb6.out.cell 0 rfl
        have m1 := hb6.out.cell 1 rfl
        have m2 := hb6.out.cell 2 rfl
        by_cases h1 : s < T
        · have hsrc := hide (src_sl Tryz.underlying34 (sl_lit W6 52 3 [.int .i64 s, .int .i64 z, .slice DA D.length dcap] rfl) (by intro u hu; simp only [List.mem_cons, List.not_mem_nil, or_false] at hu; rcases hu with rfl | rfl | rfl <;> rfl) (by omega))
          have hbs := hide (own_ext hO6.out ((Ext.refl W6).alloc (.cells #[.int .i64 s, .int .i64 z, .slice DA D.length dcap] 52)))
          have hbz := hide (Nat.le_trans (Nat.le_trans hzw hX6.out.size) ((Ext.refl W6).alloc (.cells #[.int .i64 s, .int .i64 z, .slice DA D.length dcap] 52)).size)
          go_wp2_with (at_builtin; (refine wpl_app tPa rfl (.tmp 32) (.tmp 34) rfl rfl hbs.out rfl hsrc.out (by unfold maxLen; omega) (by omega) hbz.out ?_; intro v8 w8 ho8 hg8 hob8; have ho9 := hide ho8; have hg9 := hide hg8; obtain ⟨A8, c8, q8⟩ := own_form ho8; subst q8; clear ho8 hg8 hob8))
          have hF9 : Fr (ob (.slice QA Q.length qcap)) W6 w8 := ((Fr.refl _ _).alloc _).grown hg9.out (fun j hj => .inl (Option.mem_toList.2 hj))
          go_roundg (P.length - (k + 1))
          case measure => omega
          case rel =>
            refine ⟨k + 1, Q ++ [(Value.slice DA D.length dcap, (s, z), D)], by go_num, by omega, ?_, ?_, by simp; omega, ext_fr (hX.out.trans hX6.out) hF9 (fun y hy => (hobQ y hy).1)⟩
            · have := ho9.out
              show World.ownsRow _ _ _ _ _ _ _
              rw [List.length_append, pt_append]
              simpa [pt, pt1] using this
            · show _ = _
              rw [hnx.out, cutV_append, ← hQ.out]
              first | (simp [cutV, h1, hzt]; done) | (simp [cutV, h1, hzt]; intro hh; omega)
        · go_wp2_with fail
          go_roundg (P.length - (k + 1))
          case measure => omega
          case rel => exact ⟨k + 1, Q, by go_num, by omega, hO6.out, (by show _ = _; rw [hnx.out, cutV_append, ← hQ.out]; simp [cutV, h1]), by omega, hX.out.trans hX6.out⟩
    · have hQf : Hid (Q = cutV P T) := by show _ = _; rw [hQ.out, List.take_of_length_le (by omega)]
      go_wp2_with fail
      go_returns
      refine ⟨_, rfl, ?_, hX.out⟩
      rw [← hQf.out]
      refine ⟨Sl.own hO.out (by simp), fun p hp => ?_⟩
      rw [hQf.out] at hp
      obtain ⟨q, hq, rfl⟩ := List.mem_map.1 hp
      exact (h'.out.ext hX.out).2 q (List.mem_filter.1 hq).1
end Go.Proofs.YtljkneajdndgjaaGreat
