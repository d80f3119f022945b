/-
  A helper of ours: no claim of its own. Layer 10 (edge): a row's edges, by the document.
-/
import Derived.Test.YtajelkkiijdegaaGreatPqG
import Derived.Test.YtajelkkiijdegaaGreatFolA
import Derived.Test.YtajelkkiijdegaaGreatBagC
import Derived.Test.YtajelkkiijdegaaGreatEdgEn
set_option linter.unusedVariables false
set_option linter.unusedSimpArgs false
namespace Go.Proofs.YtajelkkiijdegaaGreat
open Go.RowKit
attribute [local go_sem] GW.cell GW.frozen In.eq_true In.le_true In.ne In.ne' In.ne_add In.ne_add' In.lt_add Upto.le_true Upto.le_add Upto.lt_add
set_option maxHeartbeats 16000000 in
set_option maxRecDepth 100000 in
theorem docCheck_c (base r : Nat) (sv : Value) (S : StD) (ev gv : Value) (L : List Lv) (k i f t : Int) (l : List Vl) (v : Value) (w : World) (h : Sd w base r sv S ev gv L) (hn : L.length ≤ 200000) (hv : Rw w [] v l) : Calls Tryz.prog 48 #[.pointer (some ⟨r, 1, none⟩), mg k i f t v] w fun e w' => e = .returned (.int .i64 (chkD S ((k, i, f, t), l))) ∧ Ext w w' := by
  have c0 := h.ob.cell 1 rfl
  have c1 := h.ob.cell 2 rfl
  have hlt := h.ob.lt
  haveI : In r w := ⟨hlt⟩
  have hck := hide (fun w' (hX : Ext w w') => refCheck_c k i f t l v w' (Sl.ext hv hX))
  have hfi := hide (fun w' (hX : Ext w w') => refFind_c base r sv S ev gv L i w' (h.ext hX) hn)
  obtain ⟨VA, vc, rfl⟩ := rw_val hv
  have hX0 := hide (Ext.refl w)
  obtain ⟨E, hE⟩ : ∃ E, E = mchk k i f t l := ⟨_, rfl⟩
  have hmk : mkM ((k, i, f, t), l) = E := hE.symm
  obtain ⟨R, hR⟩ : ∃ R, R = chkD S ((k, i, f, t), l) := ⟨_, rfl⟩
  rw [← hR]
  rw [← hE] at hck
  unfold chkD chkO at hR
  rw [hmk] at hR
  have hkd : E = 0 → k = 1 ∨ k = 2 ∨ k = 3 := fun h0 => mchk_kind (hE ▸ h0)
  have hlen := h.evs
  have hfd : fndI S.1 i 0 S.2 = (match kn S.1 i 0 S.2 with | none => -1 | some x => (x.1 : Int)) := rfl
  have hat := hide h
  clear hE hmk hv h
  simp only at hR
  obtain ⟨S1, S2⟩ := S
  simp only at *
  by_cases h0 : E = 0
  · rw [if_neg (by simpa using h0)] at hR
    have hk := hkd h0
    subst h0
    clear hkd
    rcases hk with rfl | rfl | rfl
    · rw [if_neg (by decide)] at hR
      by_cases hc : f < S1
      · rw [if_pos hc] at hR
        subst hR
        have dhc : decide (f < S1) = true := decide_eq_true hc
        clear hfd hat hfi
        go_enter Tryz.func48, Tryz.ntmps48
        go_wp2_with (go_at_call 46; first | ((with_reducible refine seq_gw' (hck.out _ (hX0.out.alloc _)) ?_); intro g) | ((with_reducible refine seq_gw (hck.out _ (hX0.out.alloc _)) ?_); intro g))
        refine wp_region_gw (by kernel_rfl) (by kernel_rfl) ?_
        repeat (go_big_quiet_step (fail))
        refine wpQuiet_nil ?_
        intro g2
        go_wp2_with fail
        go_returns
        exact ⟨by first | rfl | simp, Gn.ext⟩
      · rw [if_neg hc] at hR
        have dhc : decide (f < S1) = false := decide_eq_false hc
        cases hkn : kn S1 i 0 S2 with
        | none =>
          rw [hkn] at hR hfd
          simp only at hR hfd
          rw [if_neg (by simp)] at hR
          subst hR
          rw [hfd] at hfi
          clear hfd hat
          go_enter Tryz.func48, Tryz.ntmps48
          go_wp2_with (go_at_call 46; first | ((with_reducible refine seq_gw' (hck.out _ (hX0.out.alloc _)) ?_); intro g) | ((with_reducible refine seq_gw (hck.out _ (hX0.out.alloc _)) ?_); intro g))
          refine wp_region_gw (by kernel_rfl) (by kernel_rfl) ?_
          repeat (go_big_quiet_step (fail))
          refine wpQuiet_nil ?_
          intro g2
          go_wp2_with (go_at_call 22; first | ((with_reducible refine seq_gw' (hfi.out _ Gn.ext) ?_); intro gf) | ((with_reducible refine seq_gw (hfi.out _ Gn.ext) ?_); intro gf))
          go_returns
          exact ⟨by first | rfl | simp, Gn.ext⟩
        | some x =>
          obtain ⟨j, e⟩ := x
          rw [hkn] at hR hfd
          simp only at hR hfd
          rw [if_pos (by simp)] at hR
          subst hR
          rw [hfd] at hfi
          clear hfd hat
          go_enter Tryz.func48, Tryz.ntmps48
          go_wp2_with (go_at_call 46; first | ((with_reducible refine seq_gw' (hck.out _ (hX0.out.alloc _)) ?_); intro g) | ((with_reducible refine seq_gw (hck.out _ (hX0.out.alloc _)) ?_); intro g))
          refine wp_region_gw (by kernel_rfl) (by kernel_rfl) ?_
          repeat (go_big_quiet_step (fail))
          refine wpQuiet_nil ?_
          intro g2
          go_wp2_with (go_at_call 22; first | ((with_reducible refine seq_gw' (hfi.out _ Gn.ext) ?_); intro gf) | ((with_reducible refine seq_gw (hfi.out _ Gn.ext) ?_); intro gf))
          go_returns
          exact ⟨by first | rfl | simp, Gn.ext⟩
    · rw [if_pos rfl] at hR
      cases hkn : kn S1 i 0 S2 with
      | none =>
        rw [hkn] at hR hfd
        simp only [Option.map_none] at hR hfd
        subst hR
        have dm : decide ((-1 : Int) < 0) = true := by decide
        rw [hfd] at hfi
        clear hfd hat
        go_enter Tryz.func48, Tryz.ntmps48
        go_wp2_with (first | (go_at_call 46; first | ((with_reducible refine seq_gw' (hck.out _ (hX0.out.alloc _)) ?_); intro g) | ((with_reducible refine seq_gw (hck.out _ (hX0.out.alloc _)) ?_); intro g)) | (go_at_call 22; first | ((with_reducible refine seq_gw' (hfi.out _ Gn.ext) ?_); intro gf) | ((with_reducible refine seq_gw (hfi.out _ Gn.ext) ?_); intro gf)))
        go_returns
        exact ⟨by first | rfl | simp, Gn.ext⟩
      | some x =>
        obtain ⟨j, ⟨ei, er⟩, ⟨e1, e2⟩, eg⟩ := x
        rw [hkn] at hR hfd
        simp only [Option.map_some] at hR hfd
        rw [hfd] at hfi
        obtain ⟨-, hj, -⟩ := kn_some hkn
        rw [Nat.sub_zero, ← hlen, List.getElem?_map] at hj
        obtain ⟨p, hp, hpe⟩ := Option.map_eq_some_iff.1 hj
        obtain ⟨g5, cap', g6, cap2', PA, pc, q0, q9, hgl, hgl2, q3, y0, y1, y2, y3, y4⟩ := hat.out.at hp
        subst q0
        rw [hpe] at y0 y2 y3
        simp only at y0 y2 y3
        haveI : In g5 w := ⟨hgl⟩
        have hjl : j < L.length := (List.getElem?_eq_some_iff.1 hp).1
        have hjI : (j : Int) < L.length := by omega
        clear hfd hat hj hp hpe q9 q3 y4 y1 hgl2 hkn hlen
        by_cases h5 : e2 ≤ t
        · rw [if_pos h5] at hR
          subst hR
          have dh5 : decide (e2 ≤ t) = true := decide_eq_true h5
          go_enter Tryz.func48, Tryz.ntmps48
          go_wp2_with (first | (go_at_call 46; first | ((with_reducible refine seq_gw' (hck.out _ (hX0.out.alloc _)) ?_); intro g) | ((with_reducible refine seq_gw (hck.out _ (hX0.out.alloc _)) ?_); intro g)) | (go_at_call 22; first | ((with_reducible refine seq_gw' (hfi.out _ Gn.ext) ?_); intro gf) | ((with_reducible refine seq_gw (hfi.out _ Gn.ext) ?_); intro gf)))
          refine wp_region_gw (by kernel_rfl) (by kernel_rfl) ?_
          repeat (go_big_quiet_step (fail))
          refine wpQuiet_nil ?_
          intro g2
          go_wp2_with fail
          go_returns
          exact ⟨by first | rfl | simp, Gn.ext⟩
        · rw [if_neg h5] at hR
          have dh5 : decide (e2 ≤ t) = false := decide_eq_false h5
          by_cases h4 : t < e1
          · rw [if_pos h4] at hR
            subst hR
            have dh4 : decide (t < e1) = true := decide_eq_true h4
            go_enter Tryz.func48, Tryz.ntmps48
            go_wp2_with (first | (go_at_call 46; first | ((with_reducible refine seq_gw' (hck.out _ (hX0.out.alloc _)) ?_); intro g) | ((with_reducible refine seq_gw (hck.out _ (hX0.out.alloc _)) ?_); intro g)) | (go_at_call 22; first | ((with_reducible refine seq_gw' (hfi.out _ Gn.ext) ?_); intro gf) | ((with_reducible refine seq_gw (hfi.out _ Gn.ext) ?_); intro gf)))
            refine wp_region_gw (by kernel_rfl) (by kernel_rfl) ?_
            repeat (go_big_quiet_step (fail))
            refine wpQuiet_nil ?_
            intro g2
            go_wp2_with fail
            refine wp_region_gw (by kernel_rfl) (by kernel_rfl) ?_
            repeat (go_big_quiet_step (fail))
            refine wpQuiet_nil ?_
            intro g3
            go_wp2_with fail
            go_returns
            exact ⟨by first | rfl | simp, Gn.ext⟩
          · rw [if_neg h4] at hR
            have dh4 : decide (t < e1) = false := decide_eq_false h4
            by_cases hc : t < S1
            · rw [if_pos hc] at hR
              subst hR
              have dhc : decide (t < S1) = true := decide_eq_true hc
              go_enter Tryz.func48, Tryz.ntmps48
              go_wp2_with (first | (go_at_call 46; first | ((with_reducible refine seq_gw' (hck.out _ (hX0.out.alloc _)) ?_); intro g) | ((with_reducible refine seq_gw (hck.out _ (hX0.out.alloc _)) ?_); intro g)) | (go_at_call 22; first | ((with_reducible refine seq_gw' (hfi.out _ Gn.ext) ?_); intro gf) | ((with_reducible refine seq_gw (hfi.out _ Gn.ext) ?_); intro gf)))
              refine wp_region_gw (by kernel_rfl) (by kernel_rfl) ?_
              repeat (go_big_quiet_step (fail))
              refine wpQuiet_nil ?_
              intro g2
              go_wp2_with fail
              refine wp_region_gw (by kernel_rfl) (by kernel_rfl) ?_
              repeat (go_big_quiet_step (fail))
              refine wpQuiet_nil ?_
              intro g3
              go_wp2_with fail
              refine wp_region_gw (by kernel_rfl) (by kernel_rfl) ?_
              repeat (go_big_quiet_step (fail))
              refine wpQuiet_nil ?_
              intro g4
              go_wp2_with fail
              go_returns
              exact ⟨by first | rfl | simp, Gn.ext⟩
            · rw [if_neg hc] at hR
              have dhc : decide (t < S1) = false := decide_eq_false hc
              subst hR
              go_enter Tryz.func48, Tryz.ntmps48
              go_wp2_with (first | (go_at_call 46; first | ((with_reducible refine seq_gw' (hck.out _ (hX0.out.alloc _)) ?_); intro g) | ((with_reducible refine seq_gw (hck.out _ (hX0.out.alloc _)) ?_); intro g)) | (go_at_call 22; first | ((with_reducible refine seq_gw' (hfi.out _ Gn.ext) ?_); intro gf) | ((with_reducible refine seq_gw (hfi.out _ Gn.ext) ?_); intro gf)))
              refine wp_region_gw (by kernel_rfl) (by kernel_rfl) ?_
              repeat (go_big_quiet_step (fail))
              refine wpQuiet_nil ?_
              intro g2
              go_wp2_with fail
              refine wp_region_gw (by kernel_rfl) (by kernel_rfl) ?_
              repeat (go_big_quiet_step (fail))
              refine wpQuiet_nil ?_
              intro g3
              go_wp2_with fail
              refine wp_region_gw (by kernel_rfl) (by kernel_rfl) ?_
              repeat (go_big_quiet_step (fail))
              refine wpQuiet_nil ?_
              intro g4
              go_wp2_with fail
              go_returns
              exact ⟨by first | rfl | simp, Gn.ext⟩
    · rw [if_neg (by decide)] at hR
      clear hfd hat hfi
      by_cases hc : f < S1
      · rw [if_pos hc] at hR
        subst hR
        have dhc : decide (f < S1) = true := decide_eq_true hc
        go_enter Tryz.func48, Tryz.ntmps48
        go_wp2_with (go_at_call 46; first | ((with_reducible refine seq_gw' (hck.out _ (hX0.out.alloc _)) ?_); intro g) | ((with_reducible refine seq_gw (hck.out _ (hX0.out.alloc _)) ?_); intro g))
        refine wp_region_gw (by kernel_rfl) (by kernel_rfl) ?_
        repeat (go_big_quiet_step (fail))
        refine wpQuiet_nil ?_
        intro g2
        go_wp2_with fail
        go_returns
        exact ⟨by first | rfl | simp, Gn.ext⟩
      · rw [if_neg hc] at hR
        have dhc : decide (f < S1) = false := decide_eq_false hc
        rw [if_neg (by simp)] at hR
        subst hR
        go_enter Tryz.func48, Tryz.ntmps48
        go_wp2_with (go_at_call 46; first | ((with_reducible refine seq_gw' (hck.out _ (hX0.out.alloc _)) ?_); intro g) | ((with_reducible refine seq_gw (hck.out _ (hX0.out.alloc _)) ?_); intro g))
        refine wp_region_gw (by kernel_rfl) (by kernel_rfl) ?_
        repeat (go_big_quiet_step (fail))
        refine wpQuiet_nil ?_
        intro g2
        go_wp2_with fail
        go_returns
        exact ⟨by first | rfl | simp, Gn.ext⟩
  · rw [if_pos (by simpa using h0)] at hR
    subst hR
    have e0 : (R == 0) = false := by simp [h0]
    have e1 : (R != 0) = true := by simp [h0]
    clear hkd hfd hat hfi hlen
    go_enter Tryz.func48, Tryz.ntmps48
    go_wp2_with (go_at_call 46; first | ((with_reducible refine seq_gw' (hck.out _ (hX0.out.alloc _)) ?_); intro g) | ((with_reducible refine seq_gw (hck.out _ (hX0.out.alloc _)) ?_); intro g))
    go_returns
    exact ⟨by first | rfl | simp, Gn.ext⟩
end Go.Proofs.YtajelkkiijdegaaGreat
set_option linter.unusedVariables false
set_option linter.unusedSimpArgs false
namespace Go.Proofs.YtajelkkiijdegaaGreat
open Go.RowKit
attribute [local go_sem] GW.cell GW.frozen In.eq_true In.le_true In.ne In.ne' In.ne_add In.ne_add' In.lt_add Upto.le_true Upto.le_add Upto.lt_add
theorem sd_turn {base r : Nat} {sv : Value} {S : StD} {ev gv : Value} {L : List Lv} {w w' : World} {c : Int} (h : Sd w base r sv S ev gv L) (hF : Fr [r] w w') (hO : Ob w' r 51 [sv, .int .i64 c, ev, gv]) : Sd w' base r sv (c, S.2) ev gv L ∧ Fr [r] w w' := by
  refine ⟨⟨hO, h.own.stay hF (fun b hb => ?_), own_stay h.gone hF (fun b hb => ?_), h.evs, h.rb⟩, hF⟩
  · rw [List.mem_singleton.1 hb]; exact ⟨h.ob.nt (by decide), h.ob.nt (by decide)⟩
  · rw [List.mem_singleton.1 hb]; exact h.ob.nt (by decide)
set_option maxHeartbeats 2000000 in
set_option maxRecDepth 100000 in
theorem docTake0_c (base r : Nat) (sv : Value) (S : StD) (ev gv : Value) (L : List Lv) (k i f t : Int) (l : List Vl) (v : Value) (w : World) (h : Sd w base r sv S ev gv L) (hn : L.length ≤ 200000) (hv : Rw w [] v l) (h0 : chkD S ((k, i, f, t), l) ≠ 0) : Calls Tryz.prog 49 #[.pointer (some ⟨r, 1, none⟩), mg k i f t v] w fun e w' => e = .returned (.tuple #[zChV, .int .i64 (chkD S ((k, i, f, t), l))]) ∧ Ext w w' := by
  have hcd := hide (fun w' (hX : Ext w w') => docCheck_c base r sv S ev gv L k i f t l v w' (h.ext hX) hn (Sl.ext hv hX))
  obtain ⟨VA, vc, rfl⟩ := rw_val hv
  generalize chkD S ((k, i, f, t), l) = E at *
  generalize l.length = ll at *
  have b1 : (E != 0) = true := by rw [bne_iff_ne]; exact h0
  have b2 : (E == 0) = false := by simp [h0]
  clear h hv h0
  go_enter Tryz.func49, Tryz.ntmps49
  go_wp2_with (go_at_call 48; first | ((with_reducible refine seq_gw' (hcd.out _ Gn.ext) ?_); intro g) | ((with_reducible refine seq_gw (hcd.out _ Gn.ext) ?_); intro g))
  go_returns
  have hX := hide (((Ext.refl w).alloc (.cells #[.int .i64 k, .int .i64 i, .int .i64 f, .int .i64 t, .slice VA ll vc] 44)).alloc (.cells #[.int .i64 0, .slice none 0 0, .int .i64 0, .int .i64 0, .int .i64 0, .int .i64 0] 39) |>.trans g.grown)
  refine ⟨rfl, ?_⟩
  repeat refine Ext.setCell ?_ (by first | (simp; done) | (simp; omega)) _
  exact hX.out
set_option maxHeartbeats 2000000 in
set_option maxRecDepth 100000 in
theorem docTake3_c (base r : Nat) (sv : Value) (S : StD) (ev gv : Value) (L : List Lv) (i f t : Int) (l : List Vl) (v : Value) (w : World) (h : Sd w base r sv S ev gv L) (hn : L.length ≤ 200000) (hv : Rw w [] v l) (h0 : chkD S ((3, i, f, t), l) = 0) : Calls Tryz.prog 49 #[.pointer (some ⟨r, 1, none⟩), mg 3 i f t v] w fun e w' => e = .returned (.tuple #[zChV, .int .i64 0]) ∧ Sd w' base r sv (f, S.2) ev gv L ∧ Fr [r] w w' := by
  have hcd := hide (fun w' (hX : Ext w w') => docCheck_c base r sv S ev gv L 3 i f t l v w' (h.ext hX) hn (Sl.ext hv hX))
  obtain ⟨VA, vc, rfl⟩ := rw_val hv
  rw [h0] at hcd
  generalize l.length = ll at *
  have c0 := h.ob.cell 1 rfl
  have f0 := h.ob.free 1
  have hlt := h.ob.lt
  haveI : In r w := ⟨hlt⟩
  have hh := hide h
  clear h hv h0
  go_enter Tryz.func49, Tryz.ntmps49
  go_wp2_with (go_at_call 48; first | ((with_reducible refine seq_gw' (hcd.out _ Gn.ext) ?_); intro g) | ((with_reducible refine seq_gw (hcd.out _ Gn.ext) ?_); intro g))
  go_returns
  have hX := hide (((Ext.refl w).alloc (.cells #[.int .i64 3, .int .i64 i, .int .i64 f, .int .i64 t, .slice VA ll vc] 44)).alloc (.cells #[.int .i64 0, .slice none 0 0, .int .i64 0, .int .i64 0, .int .i64 0, .int .i64 0] 39) |>.trans g.grown)
  refine ⟨by first | rfl | simp, ?_⟩
  refine sd_turn hh.out ?_ ?_
  · repeat (first | refine Fr.setCell ?_ _ _ (by first | (left; simp; done) | (right; simp; done) | (right; simp; omega)) | exact Fr.of_ext hX.out)
  · repeat refine Ob.far ?_ _ _ (by simp; omega)
    exact (hh.out.ob.ext hX.out).set 1 (.int .i64 f)
end Go.Proofs.YtajelkkiijdegaaGreat
set_option linter.unusedVariables false
set_option linter.unusedSimpArgs false
namespace Go.Proofs.YtajelkkiijdegaaGreat
open Go.RowKit
attribute [local go_sem] GW.cell GW.frozen In.eq_true In.le_true In.ne In.ne' In.ne_add In.ne_add' In.lt_add Upto.le_true Upto.le_add Upto.lt_add
end Go.Proofs.YtajelkkiijdegaaGreat
set_option linter.unusedVariables false
set_option linter.unusedSimpArgs false
namespace Go.Proofs.YtajelkkiijdegaaGreat
open Go.RowKit
theorem run_app_lit {P : Program} {w : World} {t tx ty e : TypeId} {z : Value} {size bytes base m b : Nat} {x : Value} {news : List Value} (T : ElemT P t e z size bytes) (hs : Src P size tx x m news w)
    (h63 : m ≤ maxLen) (hbytes : m * bytes ≤ 140737488355328) (hb : base ≤ b) (hbw : base ≤ w.heap.size) (ho : Ob w b e []) :
    ∃ v' w', (Builtin.append_ #[t, tx] ty #[.slice (some ⟨b, 0, none⟩) 0 0, x]).run P w = .ok v' w' ∧ w'.ownsRow base e size v' m news ∧ Ext w w' := by
  obtain ⟨ht, ⟨i, hi, hz, hsize, hby⟩, hzs, hsz⟩ := T
  subst hsize
  subst hby
  have hsmall : m ≤ 9223372036854775807 := by simp only [maxLen] at h63; omega
  by_cases hm : m = 0
  · subst hm
    have hn : news = [] := List.eq_nil_of_length_eq_zero (by simpa using hs.newsLen)
    subst hn
    have hst := run_storeCells_at P b (0 * i.size) e [] 0 #[] w ho (by simp) hs.one
    simp only [Nat.add_zero, Nat.zero_mul] at hst
    have hh := setRow_heap w b #[] #[] e _ ho
    refine ⟨.slice (some ⟨b, 0, none⟩) 0 0, w.setRow b #[], ?_, ⟨by simp, .inr ⟨b, 0, #[], rfl, hb, hh, Nat.le_refl _, Nat.zero_le _, by simp, by simp⟩⟩, ⟨rfl, rfl, rfl, by simp, fun k hk => ?_⟩⟩
    · rcases hs.kind with ⟨e', hk⟩ | hk <;> simp [Builtin.append_, run_underlying ht, run_underlying hk, sizeOf, typeInfo, hi, hs.len, hs.cells, Addr.add_lit, hst]
    · by_cases hkb : k = b
      · subst hkb; rw [hh]; exact ho.symm
      · exact setRow_other w b k _ hkb
  · have hr := run_append_grow_src (P := P) w t tx ty e i z ht hi hz (some ⟨b, 0, none⟩) 0 0 [] (run_firstCells_some w.drew i.size 0 _ 0 0 [] (by simp) (fun j u hu => by simp at hu)) x m news hs (by omega) (by omega) (growslice_fits (by omega) (by rw [Nat.zero_add]; exact hbytes))
    simp only [Nat.zero_add, List.nil_append] at hr
    have hge := grownCap_ge w m 0 e
    have hcm : grownCap w m 0 e ≤ maxLen := grownCap_le_maxLen w m 0 e h63
    refine ⟨_, _, hr, ⟨hs.newsLen, .inr ⟨w.heap.size, _, _, rfl, hbw, heap_alloc_new w.drew _, hge, hcm, ?_, ?_⟩⟩, ⟨rfl, rfl, rfl, by simp, fun k hk => Below.heap_alloc w.drew _ k hk⟩⟩
    · simp only [Array.size_append, List.size_toArray, size_zeroCells, hzs, hs.newsLen, ← Nat.add_mul]
      congr 1
      omega
    · simp only [Array.toList_append]
      rw [← hs.newsLen]
      exact List.take_left
end Go.Proofs.YtajelkkiijdegaaGreat
set_option linter.unusedVariables false
set_option linter.unusedSimpArgs false
namespace Go.Proofs.YtajelkkiijdegaaGreat
open Go.RowKit
attribute [local go_sem] GW.cell GW.frozen In.eq_true In.le_true In.ne In.ne' In.ne_add In.ne_add' In.lt_add Upto.le_true Upto.le_add Upto.lt_add
theorem tValP : ElemT Tryz.prog 35 83 (.agg #[.int .i64 0, .int .i64 0, .string ⟨#[]⟩]) 3 32 := ElemT.mk' Tryz.underlying35 (by kernel_rfl) rfl (by omega)
theorem buildRow0 (w : World) : (Instr.buildSlice 35 0 #[]).run Tryz.prog w = .ok (.slice (some ⟨w.heap.size, 0, none⟩) 0 0) (w.alloc (.cells #[] 83)) := by simp [go_sem]
def litF (n0 : Nat) : Fact := .st (fun u w => ∃ b, u = .slice (some ⟨b, 0, none⟩) 0 0 ∧ (n0 ≤ b ∧ Ob w b 83 [])) (fun _ _ _ ⟨b, e, h1, h2⟩ k => ⟨b, e, h1, h2.ext k⟩)
end Go.Proofs.YtajelkkiijdegaaGreat
