/-
  A helper of ours: no claim of its own. Layer 10 (edge): what ranges over the rows of edges, each with its jumps.
-/
import Derived.Test.YtljkneajdndgjabGreatEdgB
import Derived.Test.YtljkneajdndgjabGreatReg3
import Derived.Test.YtljkneajdndgjabGreatStepR
set_option linter.unusedVariables false
set_option linter.unusedSimpArgs false
namespace Go.Proofs.YtljkneajdndgjabGreat
open Go.RowKit
attribute [-go_sem] sliced
attribute [local go_sem] sliced_eq
attribute [local go_sem] GW.cell GW.frozen In.eq_true In.le_true In.ne In.ne' In.ne_add In.ne_add' In.lt_add Upto.le_true Upto.le_add Upto.lt_add Oper.semAt_some wide_depth wide_fn
/-- How long a slice is. -/
def slen : Value → Nat
  | .slice _ n _ => n
  | _ => 0
theorem jone_form {w : World} {v : Value} {x : Jp} (h : Jw w [] v [x]) : ∃ A cap, v = .slice A 1 cap := by obtain ⟨A, cap, e, _⟩ := h; exact ⟨A, cap, e⟩
/-- What comes for a row: the row, and its jumps. -/
def Hg (x : Gp) (vs : Array Value) (W : World) : Prop := ∃ r f, vs = #[r, f] ∧ (Rw W [] r x.1 ∧ Jw W [] f x.2)
theorem Hg.stab {B : Nat} (x : Gp) (vs : Array Value) : Stab B (Hg x vs) := Stab.ex fun r => Stab.ex fun f => (Stab.pure _).and ((Stab.sl _ _ _ _ _).and (Stab.sl _ _ _ _ _))
theorem Hg.size {x : Gp} {vs : Array Value} {W : World} (h : Hg x vs W) : vs.size = 2 := by obtain ⟨r, f, rfl, _⟩ := h; rfl
theorem ew_tail {w : World} {S : List Nat} {A : Option Addr} {n cap : Nat} {p : Ve} {M : List Ve} (h : Ew w S (.slice A n cap) (p :: M)) (hn : n = M.length + 1) : Ew w S (.slice (cutA A 1 cap 3) (n - 1) (cap - 1)) M := by
  subst hn
  obtain ⟨A', cap', e, h1, h2, h3, h4⟩ := id h.1
  simp only [Value.slice.injEq] at e
  obtain ⟨rfl, -, rfl⟩ := e
  have hc := h.1.cut 1 (M.length + 1) cap (by omega) (by simp) (by simpa using h1) (Nat.le_refl _)
  rw [sliced_eq, List.take_of_length_le (by rw [ec_length]; simp), ec_drop] at hc
  exact ⟨hc, fun q hq => h.2 q (by simp [hq])⟩
theorem below_ext {n : Nat} {W W' w : World} (h : Below n W W') (k : Ext W' w) (hn : n ≤ W'.heap.size) : Below n W w := h.trans (below_fr (S := []) (Fr.of_ext k) hn (by simp))
theorem sl_below {w0 W wr : World} {S : List Nat} {sz n : Nat} {v : Value} {xs : List Value} (h : Sl w0 S sz v n xs) (hX : Ext w0 W) (hB : Below w0.heap.size W wr) : Sl wr S sz v n xs :=
  h.keep fun b o _ hb => (hB.cell (p := ⟨b, o, none⟩) hb).trans (World.cell?_of_block (a := ⟨b, o, none⟩) (hX.block b hb))
set_option maxHeartbeats 8000000 in
set_option maxRecDepth 100000 in
theorem functions_seq (L : List Ve) (v : Value) (w0 w : World) (b : Nat) (hC : Ew w0 [] v L) (hz : L.length ≤ 1000000000) (hX : Ext w0 w) (hb : Ob w b 22 [v]) :
    Seqs Tryz.prog w0.heap.size 108 #[.pointer (some ⟨b, 0, none⟩)] Hg (grp (eds L)) w := by
  intro l J Jx W hW hJ hJx hY h0
  obtain ⟨A, cap, rfl, -, -, -⟩ := ew_form hC
  have q0 := (hb.ext hW).cell 0 rfl
  have hz0 := hX.size
  have hz1 := hW.size
  replace hW := hide (hX.trans hW)
  have hJ' := hide hJ
  have hY' := hide hY
  clear hJ hY hb hX
  refine (callsIn_wide (n := 1)).1 ?_
  refine callsIn_of_wp Tryz.func108 rfl trivial ?_ rfl
  simp only [Tryz.ntmps108, List.size_toArray, List.length_cons, List.length_nil, Nat.reduceAdd, Nat.reduceSub, Array.replicate_succ, Array.replicate_zero, List.push_toArray, List.append_toArray, List.nil_append, List.cons_append]
  gi_wp2
  gi_loopw [3] (fun u wr => ∃ (A : Option Addr) (n cap : Nat) (N : List Ve) (G : List Gp), u = .slice A n cap ∧ Hid (Ew w0 [] (.slice A n cap) N) ∧ n = N.length ∧ n ≤ 1000000000 ∧ Hid (grp (eds L) = G ++ grp (eds N)) ∧ Hid (J G.length wr) ∧ Below w0.heap.size W wr) (fun u _ => slen u)
  case atStart => exact ⟨A, L.length, cap, L, [], rfl, hC, rfl, hz, rfl, h0, Below.refl _ _⟩
  case round =>
    obtain ⟨A, n, cap, N, G, rfl, hN, hn, hnz, hG, hJk, hB⟩ := hrel
    clear h0 hC q0 hz
    by_cases hlt : 0 < n
    · obtain ⟨p0, N0, hN0⟩ : ∃ p M, N = p :: M := by
        cases N with
        | nil => simp at hn; omega
        | cons p M => exact ⟨p, M, rfl⟩
      have hsub := sl_below (hN.out.2 p0 (by rw [hN0]; simp)) hW.out hB
      obtain ⟨A', cap', e', -, -, hat⟩ := ew_form hN.out
      simp only [Value.slice.injEq] at e'
      obtain ⟨rfl, -, rfl⟩ := e'
      obtain ⟨bp, op, rfl, -, hbp, c0, c1, c2⟩ := hat 0 p0 (by rw [hN0]; rfl)
      simp only [Nat.zero_mul, Nat.add_zero] at c0
      have k0 := (hB.cell (p := ⟨bp, op, none⟩) hbp).trans (cell_later hW.out c0)
      have hbr : bp < wr.heap.size := block_lt_of_cell k0
      obtain ⟨rv, q, p0a, p0n⟩ := p0
      simp only at k0 hsub
      obtain ⟨RA, rcap, rfl⟩ := rw_val hsub
      have hzB := hB.size
      have hn' := hide hn
      clear hn
      replace hat := hide hat
      replace hN0 := hide hN0
      have hr0 := hide hsub
      clear c0 c1 c2 hsub
      gi_wp2
      refine wpIn_wide.2 ?_
      obtain ⟨wo, hwo⟩ : ∃ wo, wo = wr := ⟨_, rfl⟩
      subst hwo
      have hz1o : w0.heap.size ≤ wo.heap.size := by omega
      go_loopw [3, 5] (fun u f w2 => ∃ (A : Option Addr) (n2 lcap : Nat) (M : List Ve) (acc : List Jp) (run : List Ve), u = .slice A n2 lcap ∧ Hid (Ew w0 [] (.slice A n2 lcap) M) ∧ (n2 = M.length ∧ acc.length ≤ 1000000000 - n2 ∧ n2 ≤ 1000000000) ∧ OwnJ w2 wo.heap.size f acc ∧ Hid (N = run ++ M ∧ (∀ x ∈ run, x.2.1 = q) ∧ acc = run.map fun x => x.2.2) ∧ Ext wo w2) (fun u _ _ => slen u)
      case atStart => exact ⟨_, n, _, N, [], [], rfl, hN, ⟨hn'.out, by simp, hnz⟩, World.ownsRow_nil _ _ _ _, ⟨rfl, by simp, rfl⟩, Ext.refl _⟩
      case round =>
        obtain ⟨A, n2, lcap, M, acc, run, rfl, hM, ⟨hn2, hacl, hn2z⟩, ho, hrun, hX⟩ := hrel
        have hzX := hX.size
        cases hMc : M with
        | nil =>
          have hn0 : n2 = 0 := by rw [hn2, hMc]; rfl
          have hnp : ¬ 0 < n2 := by omega
          replace hn0 := hide hn0
          replace hMc := hide hMc
          replace hn2 := hide hn2
          obtain ⟨C, ccap, rfl⟩ := own_form ho
          replace ho := hide ho
          have hJr := hide (hJ'.out _ _ _ hJk.out hX)
          go_wp2_with fail
          have hXg := hX.trans (Ext.refl _)
          have hgr : grp (eds N) = (q, acc) :: grp (eds M) := by
            obtain ⟨r1, r2, r3⟩ := hrun.out
            have hne : run ≠ [] := by
              rintro rfl
              rw [List.nil_append, hN0.out] at r1
              rw [hMc.out] at r1; cases r1
            rw [r1, show eds (run ++ M) = eds run ++ eds M by simp [eds]]
            rw [grp_run q (eds run) (eds M) (by simpa using hne) (fun e he => by obtain ⟨x, hx, rfl⟩ := List.mem_map.1 he; exact r2 x hx) (fun e he => by rw [hMc.out] at he; cases he), r3]
            simp [eds, Function.comp_def]
          have hlen : n2 < n := by
            obtain ⟨r1, r2, r3⟩ := hrun.out
            have hne : run ≠ [] := by
              rintro rfl
              rw [List.nil_append, hN0.out] at r1
              rw [hMc.out] at r1; cases r1
            have : 0 < run.length := List.length_pos_iff.2 hne
            rw [hn'.out, hn2.out, r1, List.length_append]; omega
          have hG2 : grp (eds L) = (G ++ [(q, acc)]) ++ grp (eds M) := by rw [hG.out, hgr]; simp
          have hx : (grp (eds L))[G.length]? = some (q, acc) := by rw [hG.out, hgr]; simp
          have hJr2 := hJ'.out _ _ _ hJr.out (Ext.refl _)
          obtain ⟨fn, tmps, assign, body, hy, hR⟩ := hY'.out G.length (q, acc) #[.slice RA q.length rcap, .slice C acc.length ccap] _ hx hJr2 ⟨_, _, rfl, Sl.ext hr0.out hXg, own_jw (S := []) (own_ext ho.out (Ext.refl _)) (by simp)⟩
          have hGl : G.length + 1 ≤ (grp (eds L)).length := by rw [hG2]; simp
          have hJl : (G ++ [(q, acc)]).length = G.length + 1 := by simp
          replace hR := hide hR
          replace hG2 := hide hG2
          replace hGl := hide hGl
          replace hJl := hide hJl
          have hB2 := hide (below_ext hB hXg hz1o)
          clear hgr hx hJr hJr2 hrun hN0 hr0 hat ho
          gi_wp2
          refine hR.out.mono ?_
          rintro e W3 (⟨rfl, hJ3, hk3⟩ | ⟨rfl, hJx3⟩)
          · replace hJ3 := hide hJ3
            replace hk3 := hide hk3
            gi_wp2
            go_roundw
            case rel => exact ⟨_, n2, lcap, M, G ++ [(q, acc)], rfl, hM, hn2.out, hn2z, hG2, (by show J _ W3; rw [hJl.out]; exact hJ3.out), hB2.out.trans hk3.out⟩
            case measure => simp [slen]; omega
          · replace hJx3 := hide hJx3
            gi_wp2
            refine bodyPost_ret (results_none rfl _ _ _) rfl ?_
            exact ⟨⟨_, rfl⟩, .inr ⟨G.length + 1, hGl.out, hJx3.out⟩⟩
        | cons p M' =>
          have hpos : 0 < n2 := by rw [hn2, hMc]; simp
          have hsub := Sl.ext (sl_below (hM.out.2 p (by rw [hMc]; simp)) hW.out hB) hX
          obtain ⟨A', cap', e', hlc, hlm, hat2⟩ := ew_form hM.out
          simp only [Value.slice.injEq] at e'
          obtain ⟨rfl, -, rfl⟩ := e'
          obtain ⟨bp, op, rfl, -, hbp, c0, c1, c2⟩ := hat2 0 p (by rw [hMc]; rfl)
          rw [← hn2] at hlc
          unfold maxLen at hlm
          simp only [Nat.zero_mul, Nat.add_zero] at c0 c1 c2
          have k0 := cell_later hX ((hB.cell (p := ⟨bp, op, none⟩) hbp).trans (cell_later hW.out c0))
          have k1 := hide (cell_later hX ((hB.cell (p := ⟨bp, op + 1, none⟩) hbp).trans (cell_later hW.out c1)))
          have k2 := hide (cell_later hX ((hB.cell (p := ⟨bp, op + 2, none⟩) hbp).trans (cell_later hW.out c2)))
          have hbr2 : bp < wr.heap.size := block_lt_of_cell k0
          obtain ⟨pv, pq, pa, pn⟩ := p
          simp only at k0 hsub
          obtain ⟨PA, pcap, rfl⟩ := rw_val hsub
          have hsm := hide (rowSame_c hsub (Sl.ext hr0.out hX))
          have hn1 : n2 = M'.length + 1 := by rw [hn2, hMc]; rfl
          have htl := hide (ew_tail (p := (.slice PA pq.length pcap, pq, pa, pn)) (M := M') (by rw [← hMc]; exact hM.out) hn1)
          by_cases hpq : pq = q
          · have hnx := hide (show N = (run ++ [(.slice PA pq.length pcap, pq, pa, pn)]) ++ M' ∧ (∀ x ∈ run ++ [((.slice PA pq.length pcap, pq, pa, pn) : Ve)], x.2.1 = q) ∧ acc ++ [(pa, pn)] = (run ++ [((.slice PA pq.length pcap, pq, pa, pn) : Ve)]).map fun x => x.2.2 from by
              obtain ⟨r1, r2, r3⟩ := hrun.out
              refine ⟨by rw [r1, hMc]; simp, fun x hx => ?_, by rw [r3]; simp⟩
              rcases List.mem_append.1 hx with hx | hx
              · exact r2 x hx
              · obtain rfl := List.mem_singleton.1 hx; exact hpq)
            rw [decide_eq_true hpq] at hsm
            replace hMc := hide hMc
            replace hpq := hide hpq
            replace hn1 := hide hn1
            obtain ⟨C, ccap, rfl⟩ := own_form ho
            replace ho := hide ho
            have hn2I : (1 : Int) ≤ n2 := by omega
            clear hat2 hsub c0 c1 c2 hrun hM hJk hG hN0 hr0 hat hN hn2
            go_wp2_with (go_at_call 109; (with_reducible refine seq_gw hsm.out ?_); intro g)
            replace ho := hide (own_ext ho.out g.grown)
            replace k1 := hide (cell_later g.grown k1.out)
            replace k2 := hide (cell_later g.grown k2.out)
            have hzg := g.grown.size
            refine wp_region_list_tail 11 [(.is (.slice C acc.length ccap)), (.is (.slice (some ⟨bp, op, none⟩) n2 lcap)), (.is (.pointer (some ⟨bp, op, none⟩))), (.is (.pointer (some ⟨bp, op + 1, none⟩))), (.is (.int .i64 pa)), (.is (.slice (some ⟨bp, op, none⟩) n2 lcap)), (.is (.pointer (some ⟨bp, op, none⟩))), (.is (.pointer (some ⟨bp, op + 2, none⟩))), (.is (.int .i64 pn)), (.is (jm (pa, pn))), oneJ (pa, pn)] (by kernel_rfl) (by kernel_rfl) (by kernel_rfl) (by kernel_rfl) (by kernel_rfl) (by kernel_rfl) (by kernel_rfl) ?_ ?_
            · refine ⟨?_, ?_, ?_, ?_, ?_, ?_, ?_, ?_, ?_, ?_, ?_, trivial⟩
              · intro b w' h hE
                have f5 : b.tmps.getD 5 undef = .slice C acc.length ccap := hE 5 (of_decide_eq_true (by kernel_rfl))
                exact good_move (wanted_none rfl) rfl f5
              · intro b w' h hE
                have f3 : b.tmps.getD 3 undef = .slice (some ⟨bp, op, none⟩) n2 lcap := hE 3 (of_decide_eq_true (by kernel_rfl))
                exact good_move (wanted_none rfl) rfl f3
              · intro b w' h hE
                have f26 : b.tmps.getD 26 undef = .slice (some ⟨bp, op, none⟩) n2 lcap := h.dep 1 _ 26 (by kernel_rfl) rfl rfl
                exact good_index (wanted_none rfl) rfl f26 rfl (by simp [go_sem, hpos]) rfl
              · intro b w' h hE
                have f27 : b.tmps.getD 27 undef = .pointer (some ⟨bp, op, none⟩) := h.dep 2 _ 27 (by kernel_rfl) rfl rfl
                exact good_field (wanted_none rfl) rfl f27 (by simp [go_sem]) rfl
              · intro b w' h hE
                have f28 : b.tmps.getD 28 undef = .pointer (some ⟨bp, op + 1, none⟩) := h.dep 3 _ 28 (by kernel_rfl) rfl rfl
                have c0 := cell_later h.ext k1.out
                exact good_load (wanted_none rfl) rfl f28 (by simp [go_sem, c0]) rfl
              · intro b w' h hE
                have f3 : b.tmps.getD 3 undef = .slice (some ⟨bp, op, none⟩) n2 lcap := hE 3 (of_decide_eq_true (by kernel_rfl))
                exact good_move (wanted_none rfl) rfl f3
              · intro b w' h hE
                have f30 : b.tmps.getD 30 undef = .slice (some ⟨bp, op, none⟩) n2 lcap := h.dep 5 _ 30 (by kernel_rfl) rfl rfl
                exact good_index (wanted_none rfl) rfl f30 rfl (by simp [go_sem, hpos]) rfl
              · intro b w' h hE
                have f31 : b.tmps.getD 31 undef = .pointer (some ⟨bp, op, none⟩) := h.dep 6 _ 31 (by kernel_rfl) rfl rfl
                exact good_field (wanted_none rfl) rfl f31 (by simp [go_sem]) rfl
              · intro b w' h hE
                have f32 : b.tmps.getD 32 undef = .pointer (some ⟨bp, op + 2, none⟩) := h.dep 7 _ 32 (by kernel_rfl) rfl rfl
                have c0 := cell_later h.ext k2.out
                exact good_load (wanted_none rfl) rfl f32 (by simp [go_sem, c0]) rfl
              · intro b w' h hE
                have f29 : b.tmps.getD 29 undef = .int .i64 pa := h.dep 4 _ 29 (by kernel_rfl) rfl rfl
                have g29 : b.tmps[29]?.getD undef = .int .i64 pa := by rw [← Array.getD_eq_getD_getElem?]; exact f29
                have f33 : b.tmps.getD 33 undef = .int .i64 pn := h.dep 8 _ 33 (by kernel_rfl) rfl rfl
                have g33 : b.tmps[33]?.getD undef = .int .i64 pn := by rw [← Array.getD_eq_getD_getElem?]; exact f33
                exact good_run (wanted_none rfl) (by simp [execOp, Act.eval, go_sem, g29, g33, Sem.run_bind, Sem.run_pure, Result.andThen_ok]) rfl
              · intro b w' h hE
                have f34 : b.tmps.getD 34 undef = jm (pa, pn) := h.dep 9 _ 34 (by kernel_rfl) rfl rfl
                have g34 : b.tmps[34]?.getD undef = jm (pa, pn) := by rw [← Array.getD_eq_getD_getElem?]; exact f34
                have := buildJ1 (pa, pn) w'
                refine good_grow (w' := w'.alloc (.cells #[.int .i64 ((pa, pn)).1, .int .i64 ((pa, pn)).2] 80)) (v := .slice (some ⟨w'.heap.size, 0, none⟩) 1 1) (wanted_none rfl) ?_ (oneJ_new (pa, pn) w') ((Ext.refl _).alloc _)
                simp [execOp, Act.eval, g34, this, Sem.run_bind, Sem.run_pure, Result.andThen_ok]
            · intro b w2 hX2 hd hz he' hf
              have e25 : b.tmps.getD 25 undef = .slice C acc.length ccap := hf 0 _ 25 (by omega) rfl rfl
              have e26 : b.tmps.getD 26 undef = .slice (some ⟨bp, op, none⟩) n2 lcap := hf 1 _ 26 (by omega) rfl rfl
              have e27 : b.tmps.getD 27 undef = .pointer (some ⟨bp, op, none⟩) := hf 2 _ 27 (by omega) rfl rfl
              have e28 : b.tmps.getD 28 undef = .pointer (some ⟨bp, op + 1, none⟩) := hf 3 _ 28 (by omega) rfl rfl
              have e29 : b.tmps.getD 29 undef = .int .i64 pa := hf 4 _ 29 (by omega) rfl rfl
              have e30 : b.tmps.getD 30 undef = .slice (some ⟨bp, op, none⟩) n2 lcap := hf 5 _ 30 (by omega) rfl rfl
              have e31 : b.tmps.getD 31 undef = .pointer (some ⟨bp, op, none⟩) := hf 6 _ 31 (by omega) rfl rfl
              have e32 : b.tmps.getD 32 undef = .pointer (some ⟨bp, op + 2, none⟩) := hf 7 _ 32 (by omega) rfl rfl
              have e33 : b.tmps.getD 33 undef = .int .i64 pn := hf 8 _ 33 (by omega) rfl rfl
              have e34 : b.tmps.getD 34 undef = jm (pa, pn) := hf 9 _ 34 (by omega) rfl rfl
              have f9 : Jw w2 [] (b.tmps.getD 35 undef) [(pa, pn)] := hf 10 _ 35 (by omega) rfl rfl
              have e := frame_puts hd hz he'
              obtain ⟨X, hXx⟩ : ∃ X : Nat → Value, ∀ d, b.tmps.getD d undef = X d := ⟨_, fun _ => rfl⟩
              rw [hXx] at e25 e26 e27 e28 e29 e30 e31 e32 e33 e34 f9
              obtain ⟨A35, c35, q35⟩ := jone_form f9
              rw [show dstsOf _ = [25, 26, 27, 28, 29, 30, 31, 32, 33, 34, 35] from rfl] at e
              simp only [List.foldl_cons, List.foldl_nil, hXx, Act.put, List.setIfInBounds_toArray, List.set_cons_succ, List.set_cons_zero] at e
              rw [e25, e26, e27, e28, e29, e30, e31, e32, e33, e34, q35] at e
              rw [q35] at f9
              replace f9 := hide f9
              clear hf he' hz hd hXx e25 e26 e27 e28 e29 e30 e31 e32 e33 e34 q35
              subst e
              have hzw := hX2.size
              simp only [List.drop_succ_cons, List.drop_zero]
              go_wp2_with (at_builtin; (refine wpl_app tJmp rfl (.tmp 25) (.tmp 35) rfl rfl (own_ext ho.out hX2) rfl (src_sl Tryz.underlying39 f9.out (ps_one _) (by omega)) (by unfold maxLen; simp only [List.length_singleton]; omega) (by simp only [List.length_singleton]; omega) (by omega) ?_; intro v8 w8 ho8 hg8 _; have hX8 := hide (ext_grown ((hX.trans g.grown).trans hX2) hg8 (fun q hq => (ho.out.lt q hq).1))))
              go_roundw
              case rel => exact ⟨_, n2 - 1, lcap - 1, M', acc ++ [(pa, pn)], run ++ [(.slice PA pq.length pcap, pq, pa, pn)], rfl, htl.out, ⟨by have := hn1.out; omega, by rw [List.length_append, List.length_singleton]; omega, by omega⟩, own_appJ ho8, hnx, hX8.out⟩
              case measure => simp [slen]; omega
          · have hpq' := hide hpq
            rw [decide_eq_false hpq] at hsm
            have hMc' := hide hMc
            replace hn2 := hide hn2
            clear hat2 hsub c0 c1 c2 hn1 htl hpq hMc
            obtain ⟨C, ccap, rfl⟩ := own_form ho
            replace ho := hide ho
            have hJr := hide (hJ'.out _ _ _ hJk.out hX)
            go_wp2_with (go_at_call 109; (with_reducible refine seq_gw hsm.out ?_); intro g)
            have hXg := hX.trans g.grown
            have hgr : grp (eds N) = (q, acc) :: grp (eds M) := by
              obtain ⟨r1, r2, r3⟩ := hrun.out
              have hne : run ≠ [] := by
                rintro rfl
                rw [List.nil_append, hN0.out] at r1
                rw [hMc'.out] at r1; injection r1 with r1 _; injection r1 with _ r1; injection r1 with r1 _; exact hpq'.out r1.symm
              rw [r1, show eds (run ++ M) = eds run ++ eds M by simp [eds]]
              rw [grp_run q (eds run) (eds M) (by simpa using hne) (fun e he => by obtain ⟨x, hx, rfl⟩ := List.mem_map.1 he; exact r2 x hx) (fun e he => by rw [hMc'.out] at he; simp [eds] at he; subst he; exact hpq'.out), r3]
              simp [eds, Function.comp_def]
            have hlen : n2 < n := by
              obtain ⟨r1, r2, r3⟩ := hrun.out
              have hne : run ≠ [] := by
                rintro rfl
                rw [List.nil_append, hN0.out] at r1
                rw [hMc'.out] at r1; injection r1 with r1 _; injection r1 with _ r1; injection r1 with r1 _; exact hpq'.out r1.symm
              have : 0 < run.length := List.length_pos_iff.2 hne
              rw [hn'.out, hn2.out, r1, List.length_append]; omega
            have hG2 : grp (eds L) = (G ++ [(q, acc)]) ++ grp (eds M) := by rw [hG.out, hgr]; simp
            have hx : (grp (eds L))[G.length]? = some (q, acc) := by rw [hG.out, hgr]; simp
            have hJr2 := hJ'.out _ _ _ hJr.out g.grown
            obtain ⟨fn, tmps, assign, body, hy, hR⟩ := hY'.out G.length (q, acc) #[.slice RA q.length rcap, .slice C acc.length ccap] _ hx hJr2 ⟨_, _, rfl, Sl.ext hr0.out hXg, own_jw (S := []) (own_ext ho.out g.grown) (by simp)⟩
            have hGl : G.length + 1 ≤ (grp (eds L)).length := by rw [hG2]; simp
            have hJl : (G ++ [(q, acc)]).length = G.length + 1 := by simp
            replace hR := hide hR
            replace hG2 := hide hG2
            replace hGl := hide hGl
            replace hJl := hide hJl
            have hB2 := hide (below_ext hB hXg hz1o)
            clear hgr hx hJr hJr2 hrun hN0 hr0 hat ho
            gi_wp2
            refine hR.out.mono ?_
            rintro e W3 (⟨rfl, hJ3, hk3⟩ | ⟨rfl, hJx3⟩)
            · replace hJ3 := hide hJ3
              replace hk3 := hide hk3
              gi_wp2
              go_roundw
              case rel => exact ⟨_, n2, lcap, M, G ++ [(q, acc)], rfl, hM, hn2.out, hn2z, hG2, (by show J _ W3; rw [hJl.out]; exact hJ3.out), hB2.out.trans hk3.out⟩
              case measure => simp [slen]; omega
            · replace hJx3 := hide hJx3
              gi_wp2
              refine bodyPost_ret (results_none rfl _ _ _) rfl ?_
              exact ⟨⟨_, rfl⟩, .inr ⟨G.length + 1, hGl.out, hJx3.out⟩⟩
    · have hn0 : n = 0 := by omega
      have hJe : Hid (J (grp (eds L)).length wr) := by
        show J _ wr
        have hNn : N = [] := List.eq_nil_of_length_eq_zero (by omega)
        rw [hG.out, hNn]
        have : grp (eds ([] : List Ve)) = [] := rfl
        rw [this, List.append_nil]
        exact hJk.out
      replace hn := hide hn
      replace hn0 := hide hn0
      gi_wp2
      go_end0
      exact ⟨⟨_, rfl⟩, .inl hJe.out⟩
end Go.Proofs.YtljkneajdndgjabGreat
