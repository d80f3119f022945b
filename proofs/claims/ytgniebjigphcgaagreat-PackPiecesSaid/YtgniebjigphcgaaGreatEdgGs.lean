/-
  A helper of ours: no claim of its own. Layer 10 (edge): Groups by the code: what it keeps, what it tells.
-/
import Derived.Test.YtgniebjigphcgaaGreatEdgF
import Derived.Test.YtgniebjigphcgaaGreatRg
import Derived.Test.YtgniebjigphcgaaGreatRowE
import Derived.Test.YtgniebjigphcgaaGreatEdgH
import Derived.Test.YtgniebjigphcgaaGreatEdgEn
import Derived.Test.YtgniebjigphcgaaGreatEdgU
set_option linter.unusedVariables false
set_option linter.unusedSimpArgs false
namespace Go.Proofs.YtgniebjigphcgaaGreat
open Go.RowKit
attribute [-go_sem] sliced
attribute [local go_sem] sliced_eq
attribute [local go_sem] GW.cell GW.frozen In.eq_true In.le_true In.ne In.ne' In.ne_add In.ne_add' In.lt_add Upto.le_true Upto.le_add Upto.lt_add Oper.semAt_some wide_depth wide_fn
/-- What comes for a row: the row, and jumps of one's own. -/
def Hgo (x : Gp) (vs : Array Value) (W : World) : Prop := ∃ r f, vs = #[r, f] ∧ (Rw W [] r x.1 ∧ OwnJ W 0 f x.2)
theorem Hgo.stab {B : Nat} (x : Gp) (vs : Array Value) : Stab B (Hgo x vs) := Stab.ex fun r => Stab.ex fun f => (Stab.pure _).and ((Stab.sl _ _ _ _ _).and (Stab.own _ _ _ _ _ _))
theorem Hgo.size {x : Gp} {vs : Array Value} {W : World} (h : Hgo x vs W) : vs.size = 2 := by obtain ⟨r, f, rfl, _⟩ := h; rfl
set_option maxHeartbeats 8000000 in
set_option maxRecDepth 100000 in
theorem functions_seqo (L : List Ve) (v : Value) (w0 w : World) (b : Nat) (hC : Ew w0 [] v L) (hz : L.length ≤ 1000000000) (hX : Ext w0 w) (hb : Ob w b 32 [v]) :
    Seqs Tryz.prog w0.heap.size 93 #[.pointer (some ⟨b, 0, none⟩)] Hgo (grp (eds L)) w := by
  intro l J Jx W hW hJ hJx hY h0
  obtain ⟨A, cap, rfl, -, -, -⟩ := ew_form hC
  have q0 := (hb.ext hW).cell 0 rfl
  have hz0 := hX.size
  have hz1 := hW.size
  replace hW := hide (hX.trans hW)
  have hJ' := hide hJ
  have hY' := hide hY
  clear hJ hY hb hX
  refine (callsIn_wide (n := 1)).1 ?_
  refine callsIn_of_wp Tryz.func93 rfl trivial ?_ rfl
  simp only [Tryz.ntmps93, List.size_toArray, List.length_cons, List.length_nil, Nat.reduceAdd, Nat.reduceSub, Array.replicate_succ, Array.replicate_zero, List.push_toArray, List.append_toArray, List.nil_append, List.cons_append]
  gi_wp2
  gi_loopw [3] (fun u wr => ∃ (A : Option Addr) (n cap : Nat) (N : List Ve) (G : List Gp), u = .slice A n cap ∧ Hid (Ew w0 [] (.slice A n cap) N) ∧ n = N.length ∧ n ≤ 1000000000 ∧ Hid (grp (eds L) = G ++ grp (eds N)) ∧ Hid (J G.length wr) ∧ Below w0.heap.size W wr) (fun u _ => slen u)
  case atStart => exact ⟨A, L.length, cap, L, [], rfl, hC, rfl, hz, rfl, h0, Below.refl _ _⟩
  case round =>
    obtain ⟨A, n, cap, N, G, rfl, hN, hn, hnz, hG, hJk, hB⟩ := hrel
    clear h0 hC q0 hz
    by_cases hlt : 0 < n
    · obtain ⟨p0, N0, hN0⟩ : ∃ p M, N = p :: M := by
        cases N with
        | nil => simp at hn; omega
        | cons p M => exact ⟨p, M, rfl⟩
      have hsub := sl_below (hN.out.2 p0 (by rw [hN0]; simp)) hW.out hB
      obtain ⟨A', cap', e', -, -, hat⟩ := ew_form hN.out
      simp only [Value.slice.injEq] at e'
      obtain ⟨rfl, -, rfl⟩ := e'
      obtain ⟨bp, op, rfl, -, hbp, c0, c1, c2⟩ := hat 0 p0 (by rw [hN0]; rfl)
      simp only [Nat.zero_mul, Nat.add_zero] at c0
      have k0 := (hB.cell (p := ⟨bp, op, none⟩) hbp).trans (cell_later hW.out c0)
      have hbr : bp < wr.heap.size := block_lt_of_cell k0
      obtain ⟨rv, q, p0a, p0n⟩ := p0
      simp only at k0 hsub
      obtain ⟨RA, rcap, rfl⟩ := rw_val hsub
      have hzB := hB.size
      have hn' := hide hn
      clear hn
      replace hat := hide hat
      replace hN0 := hide hN0
      have hr0 := hide hsub
      clear c0 c1 c2 hsub
      gi_wp2
      refine wpIn_wide.2 ?_
      obtain ⟨wo, hwo⟩ : ∃ wo, wo = wr := ⟨_, rfl⟩
      subst hwo
      have hz1o : w0.heap.size ≤ wo.heap.size := by omega
      go_loopw [3, 5] (fun u f w2 => ∃ (A : Option Addr) (n2 lcap : Nat) (M : List Ve) (acc : List Jp) (run : List Ve), u = .slice A n2 lcap ∧ Hid (Ew w0 [] (.slice A n2 lcap) M) ∧ (n2 = M.length ∧ acc.length ≤ 1000000000 - n2 ∧ n2 ≤ 1000000000) ∧ OwnJ w2 wo.heap.size f acc ∧ Hid (N = run ++ M ∧ (∀ x ∈ run, x.2.1 = q) ∧ acc = run.map fun x => x.2.2) ∧ Ext wo w2) (fun u _ _ => slen u)
      case atStart => exact ⟨_, n, _, N, [], [], rfl, hN, ⟨hn'.out, by simp, hnz⟩, World.ownsRow_nil _ _ _ _, ⟨rfl, by simp, rfl⟩, Ext.refl _⟩
      case round =>
        obtain ⟨A, n2, lcap, M, acc, run, rfl, hM, ⟨hn2, hacl, hn2z⟩, ho, hrun, hX⟩ := hrel
        have hzX := hX.size
        cases hMc : M with
        | nil =>
          have hn0 : n2 = 0 := by rw [hn2, hMc]; rfl
          have hnp : ¬ 0 < n2 := by omega
          replace hn0 := hide hn0
          replace hMc := hide hMc
          replace hn2 := hide hn2
          obtain ⟨C, ccap, rfl⟩ := own_form ho
          replace ho := hide ho
          have hJr := hide (hJ'.out _ _ _ hJk.out hX)
          go_wp2_with fail
          have hXg := hX.trans (Ext.refl _)
          have hgr : grp (eds N) = (q, acc) :: grp (eds M) := by
            obtain ⟨r1, r2, r3⟩ := hrun.out
            have hne : run ≠ [] := by
              rintro rfl
              rw [List.nil_append, hN0.out] at r1
              rw [hMc.out] at r1; cases r1
            rw [r1, show eds (run ++ M) = eds run ++ eds M by simp [eds]]
            rw [grp_run q (eds run) (eds M) (by simpa using hne) (fun e he => by obtain ⟨x, hx, rfl⟩ := List.mem_map.1 he; exact r2 x hx) (fun e he => by rw [hMc.out] at he; cases he), r3]
            simp [eds, Function.comp_def]
          have hlen : n2 < n := by
            obtain ⟨r1, r2, r3⟩ := hrun.out
            have hne : run ≠ [] := by
              rintro rfl
              rw [List.nil_append, hN0.out] at r1
              rw [hMc.out] at r1; cases r1
            have : 0 < run.length := List.length_pos_iff.2 hne
            rw [hn'.out, hn2.out, r1, List.length_append]; omega
          have hG2 : grp (eds L) = (G ++ [(q, acc)]) ++ grp (eds M) := by rw [hG.out, hgr]; simp
          have hx : (grp (eds L))[G.length]? = some (q, acc) := by rw [hG.out, hgr]; simp
          have hJr2 := hJ'.out _ _ _ hJr.out (Ext.refl _)
          obtain ⟨fn, tmps, assign, body, hy, hR⟩ := hY'.out G.length (q, acc) #[.slice RA q.length rcap, .slice C acc.length ccap] _ hx hJr2 ⟨_, _, rfl, Sl.ext hr0.out hXg, own_base (own_ext ho.out (Ext.refl _)) (Nat.zero_le _)⟩
          have hGl : G.length + 1 ≤ (grp (eds L)).length := by rw [hG2]; simp
          have hJl : (G ++ [(q, acc)]).length = G.length + 1 := by simp
          replace hR := hide hR
          replace hG2 := hide hG2
          replace hGl := hide hGl
          replace hJl := hide hJl
          have hB2 := hide (below_ext hB hXg hz1o)
          clear hgr hx hJr hJr2 hrun hN0 hr0 hat ho
          gi_wp2
          refine hR.out.mono ?_
          rintro e W3 (⟨rfl, hJ3, hk3⟩ | ⟨rfl, hJx3⟩)
          · replace hJ3 := hide hJ3
            replace hk3 := hide hk3
            gi_wp2
            go_roundw
            case rel => exact ⟨_, n2, lcap, M, G ++ [(q, acc)], rfl, hM, hn2.out, hn2z, hG2, (by show J _ W3; rw [hJl.out]; exact hJ3.out), hB2.out.trans hk3.out⟩
            case measure => simp [slen]; omega
          · replace hJx3 := hide hJx3
            gi_wp2
            refine bodyPost_ret (results_none rfl _ _ _) rfl ?_
            exact ⟨⟨_, rfl⟩, .inr ⟨G.length + 1, hGl.out, hJx3.out⟩⟩
        | cons p M' =>
          have hpos : 0 < n2 := by rw [hn2, hMc]; simp
          have hsub := Sl.ext (sl_below (hM.out.2 p (by rw [hMc]; simp)) hW.out hB) hX
          obtain ⟨A', cap', e', hlc, hlm, hat2⟩ := ew_form hM.out
          simp only [Value.slice.injEq] at e'
          obtain ⟨rfl, -, rfl⟩ := e'
          obtain ⟨bp, op, rfl, -, hbp, c0, c1, c2⟩ := hat2 0 p (by rw [hMc]; rfl)
          rw [← hn2] at hlc
          unfold maxLen at hlm
          simp only [Nat.zero_mul, Nat.add_zero] at c0 c1 c2
          have k0 := cell_later hX ((hB.cell (p := ⟨bp, op, none⟩) hbp).trans (cell_later hW.out c0))
          have k1 := hide (cell_later hX ((hB.cell (p := ⟨bp, op + 1, none⟩) hbp).trans (cell_later hW.out c1)))
          have k2 := hide (cell_later hX ((hB.cell (p := ⟨bp, op + 2, none⟩) hbp).trans (cell_later hW.out c2)))
          have hbr2 : bp < wr.heap.size := block_lt_of_cell k0
          obtain ⟨pv, pq, pa, pn⟩ := p
          simp only at k0 hsub
          obtain ⟨PA, pcap, rfl⟩ := rw_val hsub
          have hsm := hide (rowSame_c hsub (Sl.ext hr0.out hX))
          have hn1 : n2 = M'.length + 1 := by rw [hn2, hMc]; rfl
          have htl := hide (ew_tail (p := (.slice PA pq.length pcap, pq, pa, pn)) (M := M') (by rw [← hMc]; exact hM.out) hn1)
          by_cases hpq : pq = q
          · have hnx := hide (show N = (run ++ [(.slice PA pq.length pcap, pq, pa, pn)]) ++ M' ∧ (∀ x ∈ run ++ [((.slice PA pq.length pcap, pq, pa, pn) : Ve)], x.2.1 = q) ∧ acc ++ [(pa, pn)] = (run ++ [((.slice PA pq.length pcap, pq, pa, pn) : Ve)]).map fun x => x.2.2 from by
              obtain ⟨r1, r2, r3⟩ := hrun.out
              refine ⟨by rw [r1, hMc]; simp, fun x hx => ?_, by rw [r3]; simp⟩
              rcases List.mem_append.1 hx with hx | hx
              · exact r2 x hx
              · obtain rfl := List.mem_singleton.1 hx; exact hpq)
            rw [decide_eq_true hpq] at hsm
            replace hMc := hide hMc
            replace hpq := hide hpq
            replace hn1 := hide hn1
            obtain ⟨C, ccap, rfl⟩ := own_form ho
            replace ho := hide ho
            have hn2I : (1 : Int) ≤ n2 := by omega
            clear hat2 hsub c0 c1 c2 hrun hM hJk hG hN0 hr0 hat hN hn2
            go_wp2_with (go_at_call 63; (with_reducible refine seq_gw hsm.out ?_); intro g)
            replace ho := hide (own_ext ho.out g.grown)
            replace k1 := hide (cell_later g.grown k1.out)
            replace k2 := hide (cell_later g.grown k2.out)
            have hzg := g.grown.size
            refine wp_region_list_tail 11 [(.is (.slice C acc.length ccap)), (.is (.slice (some ⟨bp, op, none⟩) n2 lcap)), (.is (.pointer (some ⟨bp, op, none⟩))), (.is (.pointer (some ⟨bp, op + 1, none⟩))), (.is (.int .i64 pa)), (.is (.slice (some ⟨bp, op, none⟩) n2 lcap)), (.is (.pointer (some ⟨bp, op, none⟩))), (.is (.pointer (some ⟨bp, op + 2, none⟩))), (.is (.int .i64 pn)), (.is (jm (pa, pn))), oneJ (pa, pn)] (by kernel_rfl) (by kernel_rfl) (by kernel_rfl) (by kernel_rfl) (by kernel_rfl) (by kernel_rfl) (by kernel_rfl) ?_ ?_
            · refine ⟨?_, ?_, ?_, ?_, ?_, ?_, ?_, ?_, ?_, ?_, ?_, trivial⟩
              · intro b w' h hE
                have f5 : b.tmps.getD 5 undef = .slice C acc.length ccap := hE 5 (of_decide_eq_true (by kernel_rfl))
                exact good_move (wanted_none rfl) rfl f5
              · intro b w' h hE
                have f3 : b.tmps.getD 3 undef = .slice (some ⟨bp, op, none⟩) n2 lcap := hE 3 (of_decide_eq_true (by kernel_rfl))
                exact good_move (wanted_none rfl) rfl f3
              · intro b w' h hE
                have f26 : b.tmps.getD 26 undef = .slice (some ⟨bp, op, none⟩) n2 lcap := h.dep 1 _ 26 (by kernel_rfl) rfl rfl
                exact good_index (wanted_none rfl) rfl f26 rfl (by simp [go_sem, hpos]) rfl
              · intro b w' h hE
                have f27 : b.tmps.getD 27 undef = .pointer (some ⟨bp, op, none⟩) := h.dep 2 _ 27 (by kernel_rfl) rfl rfl
                exact good_field (wanted_none rfl) rfl f27 (by simp [go_sem]) rfl
              · intro b w' h hE
                have f28 : b.tmps.getD 28 undef = .pointer (some ⟨bp, op + 1, none⟩) := h.dep 3 _ 28 (by kernel_rfl) rfl rfl
                have c0 := cell_later h.ext k1.out
                exact good_load (wanted_none rfl) rfl f28 (by simp [go_sem, c0]) rfl
              · intro b w' h hE
                have f3 : b.tmps.getD 3 undef = .slice (some ⟨bp, op, none⟩) n2 lcap := hE 3 (of_decide_eq_true (by kernel_rfl))
                exact good_move (wanted_none rfl) rfl f3
              · intro b w' h hE
                have f30 : b.tmps.getD 30 undef = .slice (some ⟨bp, op, none⟩) n2 lcap := h.dep 5 _ 30 (by kernel_rfl) rfl rfl
                exact good_index (wanted_none rfl) rfl f30 rfl (by simp [go_sem, hpos]) rfl
              · intro b w' h hE
                have f31 : b.tmps.getD 31 undef = .pointer (some ⟨bp, op, none⟩) := h.dep 6 _ 31 (by kernel_rfl) rfl rfl
                exact good_field (wanted_none rfl) rfl f31 (by simp [go_sem]) rfl
              · intro b w' h hE
                have f32 : b.tmps.getD 32 undef = .pointer (some ⟨bp, op + 2, none⟩) := h.dep 7 _ 32 (by kernel_rfl) rfl rfl
                have c0 := cell_later h.ext k2.out
                exact good_load (wanted_none rfl) rfl f32 (by simp [go_sem, c0]) rfl
              · intro b w' h hE
                have f29 : b.tmps.getD 29 undef = .int .i64 pa := h.dep 4 _ 29 (by kernel_rfl) rfl rfl
                have g29 : b.tmps[29]?.getD undef = .int .i64 pa := by rw [← Array.getD_eq_getD_getElem?]; exact f29
                have f33 : b.tmps.getD 33 undef = .int .i64 pn := h.dep 8 _ 33 (by kernel_rfl) rfl rfl
                have g33 : b.tmps[33]?.getD undef = .int .i64 pn := by rw [← Array.getD_eq_getD_getElem?]; exact f33
                exact good_run (wanted_none rfl) (by simp [execOp, Act.eval, go_sem, g29, g33, Sem.run_bind, Sem.run_pure, Result.andThen_ok]) rfl
              · intro b w' h hE
                have f34 : b.tmps.getD 34 undef = jm (pa, pn) := h.dep 9 _ 34 (by kernel_rfl) rfl rfl
                have g34 : b.tmps[34]?.getD undef = jm (pa, pn) := by rw [← Array.getD_eq_getD_getElem?]; exact f34
                have := buildJ1 (pa, pn) w'
                refine good_grow (w' := w'.alloc (.cells #[.int .i64 ((pa, pn)).1, .int .i64 ((pa, pn)).2] 61)) (v := .slice (some ⟨w'.heap.size, 0, none⟩) 1 1) (wanted_none rfl) ?_ (oneJ_new (pa, pn) w') ((Ext.refl _).alloc _)
                simp [execOp, Act.eval, g34, this, Sem.run_bind, Sem.run_pure, Result.andThen_ok]
            · intro b w2 hX2 hd hz he' hf
              have e25 : b.tmps.getD 25 undef = .slice C acc.length ccap := hf 0 _ 25 (by omega) rfl rfl
              have e26 : b.tmps.getD 26 undef = .slice (some ⟨bp, op, none⟩) n2 lcap := hf 1 _ 26 (by omega) rfl rfl
              have e27 : b.tmps.getD 27 undef = .pointer (some ⟨bp, op, none⟩) := hf 2 _ 27 (by omega) rfl rfl
              have e28 : b.tmps.getD 28 undef = .pointer (some ⟨bp, op + 1, none⟩) := hf 3 _ 28 (by omega) rfl rfl
              have e29 : b.tmps.getD 29 undef = .int .i64 pa := hf 4 _ 29 (by omega) rfl rfl
              have e30 : b.tmps.getD 30 undef = .slice (some ⟨bp, op, none⟩) n2 lcap := hf 5 _ 30 (by omega) rfl rfl
              have e31 : b.tmps.getD 31 undef = .pointer (some ⟨bp, op, none⟩) := hf 6 _ 31 (by omega) rfl rfl
              have e32 : b.tmps.getD 32 undef = .pointer (some ⟨bp, op + 2, none⟩) := hf 7 _ 32 (by omega) rfl rfl
              have e33 : b.tmps.getD 33 undef = .int .i64 pn := hf 8 _ 33 (by omega) rfl rfl
              have e34 : b.tmps.getD 34 undef = jm (pa, pn) := hf 9 _ 34 (by omega) rfl rfl
              have f9 : Jw w2 [] (b.tmps.getD 35 undef) [(pa, pn)] := hf 10 _ 35 (by omega) rfl rfl
              have e := frame_puts hd hz he'
              obtain ⟨X, hXx⟩ : ∃ X : Nat → Value, ∀ d, b.tmps.getD d undef = X d := ⟨_, fun _ => rfl⟩
              rw [hXx] at e25 e26 e27 e28 e29 e30 e31 e32 e33 e34 f9
              obtain ⟨A35, c35, q35⟩ := jone_form f9
              rw [show dstsOf _ = [25, 26, 27, 28, 29, 30, 31, 32, 33, 34, 35] from rfl] at e
              simp only [List.foldl_cons, List.foldl_nil, hXx, Act.put, List.setIfInBounds_toArray, List.set_cons_succ, List.set_cons_zero] at e
              rw [e25, e26, e27, e28, e29, e30, e31, e32, e33, e34, q35] at e
              rw [q35] at f9
              replace f9 := hide f9
              clear hf he' hz hd hXx e25 e26 e27 e28 e29 e30 e31 e32 e33 e34 q35
              subst e
              have hzw := hX2.size
              simp only [List.drop_succ_cons, List.drop_zero]
              go_wp2_with (at_builtin; (refine wpl_app tJmp rfl (.tmp 25) (.tmp 35) rfl rfl (own_ext ho.out hX2) rfl (src_sl Tryz.underlying22 f9.out (ps_one _) (by omega)) (by unfold maxLen; simp only [List.length_singleton]; omega) (by simp only [List.length_singleton]; omega) (by omega) ?_; intro v8 w8 ho8 hg8 _; have hX8 := hide (ext_grown ((hX.trans g.grown).trans hX2) hg8 (fun q hq => (ho.out.lt q hq).1))))
              go_roundw
              case rel => exact ⟨_, n2 - 1, lcap - 1, M', acc ++ [(pa, pn)], run ++ [(.slice PA pq.length pcap, pq, pa, pn)], rfl, htl.out, ⟨by have := hn1.out; omega, by rw [List.length_append, List.length_singleton]; omega, by omega⟩, own_appJ ho8, hnx, hX8.out⟩
              case measure => simp [slen]; omega
          · have hpq' := hide hpq
            rw [decide_eq_false hpq] at hsm
            have hMc' := hide hMc
            replace hn2 := hide hn2
            clear hat2 hsub c0 c1 c2 hn1 htl hpq hMc
            obtain ⟨C, ccap, rfl⟩ := own_form ho
            replace ho := hide ho
            have hJr := hide (hJ'.out _ _ _ hJk.out hX)
            go_wp2_with (go_at_call 63; (with_reducible refine seq_gw hsm.out ?_); intro g)
            have hXg := hX.trans g.grown
            have hgr : grp (eds N) = (q, acc) :: grp (eds M) := by
              obtain ⟨r1, r2, r3⟩ := hrun.out
              have hne : run ≠ [] := by
                rintro rfl
                rw [List.nil_append, hN0.out] at r1
                rw [hMc'.out] at r1; injection r1 with r1 _; injection r1 with _ r1; injection r1 with r1 _; exact hpq'.out r1.symm
              rw [r1, show eds (run ++ M) = eds run ++ eds M by simp [eds]]
              rw [grp_run q (eds run) (eds M) (by simpa using hne) (fun e he => by obtain ⟨x, hx, rfl⟩ := List.mem_map.1 he; exact r2 x hx) (fun e he => by rw [hMc'.out] at he; simp [eds] at he; subst he; exact hpq'.out), r3]
              simp [eds, Function.comp_def]
            have hlen : n2 < n := by
              obtain ⟨r1, r2, r3⟩ := hrun.out
              have hne : run ≠ [] := by
                rintro rfl
                rw [List.nil_append, hN0.out] at r1
                rw [hMc'.out] at r1; injection r1 with r1 _; injection r1 with _ r1; injection r1 with r1 _; exact hpq'.out r1.symm
              have : 0 < run.length := List.length_pos_iff.2 hne
              rw [hn'.out, hn2.out, r1, List.length_append]; omega
            have hG2 : grp (eds L) = (G ++ [(q, acc)]) ++ grp (eds M) := by rw [hG.out, hgr]; simp
            have hx : (grp (eds L))[G.length]? = some (q, acc) := by rw [hG.out, hgr]; simp
            have hJr2 := hJ'.out _ _ _ hJr.out g.grown
            obtain ⟨fn, tmps, assign, body, hy, hR⟩ := hY'.out G.length (q, acc) #[.slice RA q.length rcap, .slice C acc.length ccap] _ hx hJr2 ⟨_, _, rfl, Sl.ext hr0.out hXg, own_base (own_ext ho.out g.grown) (Nat.zero_le _)⟩
            have hGl : G.length + 1 ≤ (grp (eds L)).length := by rw [hG2]; simp
            have hJl : (G ++ [(q, acc)]).length = G.length + 1 := by simp
            replace hR := hide hR
            replace hG2 := hide hG2
            replace hGl := hide hGl
            replace hJl := hide hJl
            have hB2 := hide (below_ext hB hXg hz1o)
            clear hgr hx hJr hJr2 hrun hN0 hr0 hat ho
            gi_wp2
            refine hR.out.mono ?_
            rintro e W3 (⟨rfl, hJ3, hk3⟩ | ⟨rfl, hJx3⟩)
            · replace hJ3 := hide hJ3
              replace hk3 := hide hk3
              gi_wp2
              go_roundw
              case rel => exact ⟨_, n2, lcap, M, G ++ [(q, acc)], rfl, hM, hn2.out, hn2z, hG2, (by show J _ W3; rw [hJl.out]; exact hJ3.out), hB2.out.trans hk3.out⟩
              case measure => simp [slen]; omega
            · replace hJx3 := hide hJx3
              gi_wp2
              refine bodyPost_ret (results_none rfl _ _ _) rfl ?_
              exact ⟨⟨_, rfl⟩, .inr ⟨G.length + 1, hGl.out, hJx3.out⟩⟩
    · have hn0 : n = 0 := by omega
      have hJe : Hid (J (grp (eds L)).length wr) := by
        show J _ wr
        have hNn : N = [] := List.eq_nil_of_length_eq_zero (by omega)
        rw [hG.out, hNn]
        have : grp (eds ([] : List Ve)) = [] := rfl
        rw [this, List.append_nil]
        exact hJk.out
      replace hn := hide hn
      replace hn0 := hide hn0
      gi_wp2
      go_end0
      exact ⟨⟨_, rfl⟩, .inl hJe.out⟩
end Go.Proofs.YtgniebjigphcgaaGreat
set_option linter.unusedVariables false
set_option linter.unusedSimpArgs false
namespace Go.Proofs.YtgniebjigphcgaaGreat
open Go.RowKit
attribute [local go_sem] GW.cell GW.frozen In.eq_true In.le_true In.ne In.ne' In.ne_add In.ne_add' In.lt_add Upto.le_true Upto.le_add Upto.lt_add Oper.semAt_some wide_depth wide_fn
/-- What is told for a row: a copy of it, and its jumps, each in a block of their kind. -/
def Hgg (x : Gp) (vs : Array Value) (W : World) : Prop := ∃ r f, vs = #[r, f] ∧ (OwnR W 0 r x.1 ∧ OwnJ W 0 f x.2)
theorem Hgg.stab {B : Nat} (x : Gp) (vs : Array Value) : Stab B (Hgg x vs) := Stab.ex fun r => Stab.ex fun f => (Stab.pure _).and ((Stab.own _ _ _ _ _ _).and (Stab.own _ _ _ _ _ _))
theorem Hgg.size {x : Gp} {vs : Array Value} {W : World} (h : Hgg x vs W) : vs.size = 2 := by obtain ⟨r, f, rfl, _⟩ := h; rfl
/-- Two slices of one's own, of two kinds, share no block. -/
theorem own_apart {w : World} {b1 e1 s1 n1 b2 e2 s2 n2 : Nat} {v1 v2 : Value} {xs1 xs2 : List Value} (h : w.ownsRow b1 e1 s1 v1 n1 xs1) (k : w.ownsRow b2 e2 s2 v2 n2 xs2) (he : e1 ≠ e2) : Sl w (ob v2) s1 v1 n1 xs1 := by
  rcases h.2 with ⟨rfl, rfl⟩ | ⟨g, cap, cur, rfl, hb, hg, hn, hc, hcs, ht⟩
  · obtain rfl : xs1 = [] := List.eq_nil_of_length_eq_zero (by simpa using h.1)
    exact Sl.nil w _ s1
  · refine ⟨_, cap, rfl, hn, hc, h.1, .inr ⟨g, 0, rfl, fun m => ?_, fun j u hu => ?_⟩⟩
    · have hm : v2.ownBlock = some g := by simpa [ob] using m
      rcases k.2 with ⟨rfl, _⟩ | ⟨g2, cap2, cur2, rfl, hb2, hg2, _⟩
      · cases hm
      · obtain rfl : g2 = g := by simpa [Value.ownBlock] using hm
        rw [hg] at hg2
        injection hg2 with hg2
        injection hg2 with _ e
        exact he e
    · have := h.cells (g := g) rfl j u hu
      rwa [add_plain] at this
/-- What a round's yield leaves: told in one way. -/
def RoundB (n₀ B : Nat) (J Jx Fb : Nat → World → Prop) (k : Nat) (W1 : World) (bv : Bool) (W' : World) : Prop :=
  (bv = true → J (k + 1) W' ∧ Below n₀ W1 W' ∧ KeepsFrom B W1 W' ∧ ∀ b T us, Fb b W1 → Ob W1 b T us → Fb b W' ∧ Ob W' b T us) ∧ (bv = false → Jx (k + 1) W' ∧ KeepsFrom B W1 W')
set_option maxHeartbeats 8000000 in
set_option maxRecDepth 100000 in
theorem groups_seq2 (L : List Ve) (v : Value) (w0 w : World) (b : Nat) (hC : Ew w0 [] v L) (hz : L.length ≤ 1000000000) (hG : ∀ g ∈ grp (eds L), g.1.length ≤ 1000000) (hX : Ext w0 w) (hb : Ob w b 32 [v]) :
    Seqs2 Tryz.prog w0.heap.size 77 #[.pointer (some ⟨b, 0, none⟩)] Hgg (grp (eds L)) w := by
  intro l J Jx Fb W hW hJ hJx hFb hFn hY h0
  obtain ⟨A, cap, rfl, -, -, -⟩ := ew_form hC
  have q0 := (hb.ext hW).cell 0 rfl
  have hlb := (hb.ext hW).lt
  have hz0 := hX.size
  have hz1 := hW.size
  have hW2 := hide (hX.trans hW)
  have a2 : Ob (W.alloc (.cells #[.func (.yield l) #[] #[]] 93)) W.heap.size 93 [.func (.yield l) #[] #[]] := Ob.new W _ [.func (.yield l) #[] #[]]
  have f2 := hFn 0 W (.cells #[.func (.yield l) #[] #[]] 93) h0
  have j2 := (hJ 0).ext _ _ h0 ((Ext.refl W).alloc (.cells #[.func (.yield l) #[] #[]] 93))
  have hJ' := hide hJ
  have hJx' := hide hJx
  have hFb' := hide hFb
  have hY' := hide hY
  replace hC := hide hC
  replace hG := hide hG
  haveI : In b W := ⟨hlb⟩
  clear hJ hJx hFb hFn hY hb hX hW h0
  refine calls_marks Tryz.func77 rfl ?_
  simp only [Tryz.ntmps77, List.size_toArray, List.length_cons, List.length_nil, Nat.reduceAdd, Nat.reduceSub, Array.replicate_succ, Array.replicate_zero, List.push_toArray, List.append_toArray, List.nil_append, List.cons_append]
  go_wp2_with (go_at_call 62; refine (functions_c _ _ _ _).mono ?_; rintro ee w1 ⟨b2, rfl, hb2, hle, hX1⟩)
  have hX2 := hide (((Ext.refl W).alloc (.cells #[.func (.yield l) #[] #[]] 93)).trans hX1)
  have p2 := a2.ext hX1
  have hz2 := hX2.out.size
  have f3 := (hFb'.out W.heap.size).ext _ _ f2 hX1
  have j3 := (hJ'.out 0).ext _ _ j2 hX1
  clear a2 f2 j2 hle hX1
  obtain ⟨bb, hbb⟩ : ∃ bb, W.heap.size = bb := ⟨_, rfl⟩
  rw [hbb] at p2 f3
  refine wp_range (xs := grp (eds L)) rfl (enters_of Tryz.func93 (by kernel_rfl) rfl) (functions_seqo L _ w0 w1 b2 hC.out hz (hW2.out.trans hX2.out) hb2) (Ext.refl _) (by omega) (fun x vs W h => h.size) (fun x vs => Hgo.stab x vs)
    (fun k Wx => J k Wx ∧ (Fb bb Wx ∧ Ob Wx bb 93 [.func (.yield l) #[] #[]]))
    (fun c k Wx => c = .ret ∧ Jx k Wx)
    (fun k => ((hJ'.out k).mono hz2).and (((hFb'.out bb).mono hz2).and (Stab.ob _ _ _)))
    (fun c k => (Stab.pure _).and ((hJx'.out k).mono hz2))
    ⟨j3, f3, p2⟩
    (fun k x vs a' _ => ∃ r f, vs = #[r, f] ∧ a' = { tmps := #[.func (.yield l) #[] #[], .pointer (some ⟨b, 0, none⟩), .pointer (some ⟨bb, 0, none⟩), r, f, .slice A L.length cap, .func (.func 93) #[] #[.pointer (some ⟨b2, 0, none⟩)], r, f, undef, undef, undef, undef, undef, undef], defers := [] })
    (fun k x vs a' => Stab.pure _) ?assign ?body ?done ?stop
  case assign =>
    rintro LL k x vs W K _ ⟨r, f, rfl, -, -⟩ hK
    gi_wp2
    exact hK _ _ (Ext.refl _) ⟨r, f, rfl, by rw [← hbb]⟩
  case body =>
    rintro LL k x vs a' W1 hx ⟨hJk, hFk, o2⟩ ⟨r', f', e', hr, hf⟩ ⟨r, f, rfl, rfl⟩
    obtain ⟨rfl, rfl⟩ : r = r' ∧ f = f' := by simpa using e'
    obtain ⟨q, Jq⟩ := x
    have k2 := o2.cell 0 rfl
    have hlt2 := o2.lt
    have hq8 := hG.out (q, Jq) (List.mem_of_getElem? hx)
    simp only at hq8
    have hmx : Tryz.prog.follows .mixedOrders = true := by kernel_rfl
    have hXd : Ext W1 W1.drew := (Ext.refl W1).drew
    have hcp := hide (rowCopy_c q r W1.drew (Sl.ext hr hXd) (by omega))
    have hone := hide (fun (w2 : World) (v2 : Value) (hX : Ext W1 w2) (h2 : OwnR w2 0 v2 q) => by
      obtain ⟨fn, tm, asg, bdy, hy, hR⟩ := yield_in (l := LL) (hY'.out k (q, Jq) #[v2, f] w2 hx ((hJ'.out k).ext _ _ hJk hX) ⟨v2, f, rfl, h2, own_ext hf hX⟩)
      have hR1 : RoundIn (Fence.wide.inRound LL) 0 Tryz.prog l fn tm asg bdy w2 fun e W' => ∃ bv, e = .returned (.bool bv) ∧ RoundB w0.heap.size W.heap.size J Jx Fb k w2 bv W' := hR.mono fun e W' h => by
        rcases h with ⟨rfl, h⟩ | ⟨rfl, h⟩
        · exact ⟨true, rfl, fun _ => h, fun e => by cases e⟩
        · exact ⟨false, rfl, (fun e => by cases e), fun _ => h⟩
      exact (⟨fn, tm, asg, bdy, hy, hR1⟩ : ∃ fn tm asg bdy, (Instr.yield l #[v2, f]).run Tryz.prog w2 = .ok (.round l fn tm asg bdy) w2 ∧ RoundIn (Fence.wide.inRound LL) 0 Tryz.prog l fn tm asg bdy w2 fun e W' => ∃ bv, e = .returned (.bool bv) ∧ RoundB w0.heap.size W.heap.size J Jx Fb k w2 bv W'))
    obtain ⟨RA, rcap, rfl⟩ := rw_val hr
    obtain ⟨JA, jcap, rfl⟩ := own_form hf
    haveI : In bb W1 := ⟨hlt2⟩
    have hz1b : W.heap.size ≤ w1.heap.size := hz2
    have hzn : w0.heap.size ≤ W1.heap.size := by have := o2.lt; omega
    have hJk' := hide hJk
    have hFk' := hide hFk
    have o2' := hide o2
    clear hr hf hx hJk hFk o2
    gi_wp2
    gi_region_with_o (first | (gi_at_call 43; refine (in_round hcp.out).mono ?_; rintro ee w2 ⟨v2, rfl, ho2, hx2⟩; have hXw := hXd.trans hx2; have k3 := (o2'.out.ext hXw).cell 0 rfl; obtain ⟨C2, c2, q2⟩ := own_form ho2; subst q2; obtain ⟨fn, tm, asg, bdy, hy, hR⟩ := hone.out w2 _ hXw (own_base ho2 (Nat.zero_le _)); replace hR := hide hR) | ((with_reducible refine RoundIn.mono hR.out ?_); rintro ee W3 ⟨bv, rfl, hP⟩))
    all_goals
      cases bv
      · obtain ⟨hj, hk3⟩ := hP.2 rfl
        replace hP := hide hP
        gi_wp2
        exact ⟨keepsF_trans (keeps_ext hXw) (keepsF_mono hk3 hz1b), rfl, hj⟩
      · obtain ⟨hj, hb3, hk3, hf3⟩ := hP.1 rfl
        have hfo := hf3 bb _ _ ((hFb'.out bb).ext _ _ hFk'.out hXw) (o2'.out.ext hXw)
        replace hP := hide hP
        gi_wp2
        exact ⟨keepsF_trans (keeps_ext hXw) (keepsF_mono hk3 hz1b), (below_fr (S := []) (Fr.of_ext hXw) hzn (by simp)).trans hb3, hj, hfo.1, hfo.2⟩
  case done =>
    rintro D Wd hD ⟨hJn, -, -⟩ hK
    go_wp2
    refine ret_mark hK (results_none rfl _ _ _) ⟨⟨_, rfl⟩, .inl ((hJ'.out _).put _ _ _ _ hJn (by omega) hK rfl)⟩
  case stop =>
    rintro D c k Wd hD hk ⟨rfl, hj⟩ hK
    go_wp2
    refine ret_mark hK (results_none rfl _ _ _) ⟨⟨_, rfl⟩, .inr ⟨k, hk, (hJx'.out _).put _ _ _ _ hj (by omega) hK rfl⟩⟩
end Go.Proofs.YtgniebjigphcgaaGreat
set_option linter.unusedVariables false
set_option linter.unusedSimpArgs false
namespace Go.Proofs.YtgniebjigphcgaaGreat
open Go.RowKit
theorem grp_back : ∀ l : List Ed, evL (fun f => (0, f)) (grp l) = l
  | [] => rfl
  | e :: r => by
    have ih := grp_back r
    unfold grp
    cases h : grp r with
    | nil =>
      rw [h] at ih
      have hr : r = [] := by rw [← ih]; rfl
      subst hr
      rfl
    | cons g t =>
      obtain ⟨q, f⟩ := g
      rw [h] at ih
      simp only [evL, List.flatMap_cons] at ih ⊢
      by_cases hq : q = e.1
      · simp only [if_pos hq, List.flatMap_cons, List.map_cons, List.cons_append]
        rw [ih, hq]
      · simp only [if_neg hq, List.flatMap_cons, List.map_cons, List.map_nil, List.cons_append, List.nil_append]
        rw [ih]
theorem mem_rows {l : List Ed} (hv : ∀ e ∈ l, mayR e.1 = true) (r : List Vl) : r ∈ rowsL l ↔ jmps l r ≠ [] := by
  rw [(rowsL_ok hv).2 r]
  constructor
  · rintro ⟨⟨q, j⟩, he, rfl⟩ h
    have := jmps_mem.2 he
    rw [h] at this; cases this
  · intro h
    obtain ⟨j, hj⟩ := List.exists_mem_of_ne_nil _ h
    exact ⟨_, jmps_mem.1 hj, rfl⟩
/-- Edges whose rows do not fall are told by the jumps of each row. -/
theorem ed_ext {a b : List Ed} (ha : Rise a) (hb : Rise b) (h : ∀ r, jmps a r = jmps b r) : a = b := by
  have hr : rowsL a = rowsL b := asc_unique rlt_irr rlt_asym _ _ (rowsL_ok ha.1).1 (rowsL_ok hb.1).1 fun r => by rw [mem_rows ha.1, mem_rows hb.1, h]
  have hf : (fun r => (r, jmps a r)) = fun r => (r, jmps b r) := funext fun r => by rw [h]
  rw [← grp_back a, ← grp_back b, grp_eq ha, grp_eq hb]
  unfold byRows
  rw [hr, hf]
theorem jmps_const (q : List Vl) (f : List Jp) (r : List Vl) : jmps (f.map fun j => (q, j)) r = if q = r then f else [] := by
  induction f with
  | nil => simp [jmps]
  | cons j f ih =>
    rw [List.map_cons, jmps_cons, ih]
    by_cases h : q = r
    · simp only [if_pos h]
    · simp only [if_neg h]
theorem jmps_rows (op : List Jp → Int × List Jp) (F : List Vl → List Jp) (r : List Vl) : ∀ rows : List (List Vl), rows.Pairwise rlt → jmps (evL op (rows.map fun q => (q, F q))) r = if hasR rows r then (op (F r)).2 else []
  | [], _ => rfl
  | q :: rows, h => by
    have h' := List.pairwise_cons.1 h
    have ih := jmps_rows op F r rows h'.2
    have e : evL op ((q :: rows).map fun q => (q, F q)) = ((op (F q)).2.map fun j => (q, j)) ++ evL op (rows.map fun q => (q, F q)) := by simp [evL]
    rw [e, jmps_append, jmps_const, ih]
    by_cases hq : q = r
    · subst hq
      have hno : hasR rows q = false := by
        rw [← Bool.not_eq_true, hasR_iff]
        exact fun hm => rlt_irr q (h'.1 q hm)
      have hyes : hasR (q :: rows) q = true := hasR_iff.2 (by simp)
      rw [hno, hyes]; simp
    · have e2 : hasR (q :: rows) r = hasR rows r := by simp [hasR, hq]
      rw [if_neg hq, e2, List.nil_append]
/-- The jumps of each row, of what is made row by row. -/
theorem jmps_each {op : List Jp → Int × List Jp} (h0 : (op []).2 = []) {l : List Ed} (hv : ∀ e ∈ l, mayR e.1 = true) (r : List Vl) : jmps (evL op (byRows l)) r = (op (jmps l r)).2 := by
  unfold byRows
  rw [jmps_rows op (fun q => jmps l q) r _ (rowsL_ok hv).1]
  by_cases h : hasR (rowsL l) r = true
  · rw [if_pos h]
  · rw [if_neg h]
    have : jmps l r = [] := by
      rw [hasR_iff, mem_rows hv] at h
      exact Decidable.not_not.1 h
    rw [this, h0]
theorem evE_all {op : List Jp → Int × List Jp} : ∀ {G : List Gp}, evE op G = 0 → ∀ g ∈ G, (op g.2).1 = 0
  | [], _, g, hg => by cases hg
  | x :: t, h, g, hg => by
    rw [evE] at h
    by_cases hx : (op x.2).1 = 0
    · rw [if_pos hx] at h
      rcases List.mem_cons.1 hg with rfl | hg
      · exact hx
      · exact evE_all h g hg
    · rw [if_neg hx] at h; exact absurd h hx
theorem each_zero {op : List Jp → Int × List Jp} {G : List Gp} (h : eachE op G = 0) : evE op G = 0 ∧ (evL op G).length ≤ 4096 ∧ eachR op G = evL op G := by
  have h' := h
  unfold eachE at h
  split at h
  · rename_i he
    split at h
    · cases h
    · rename_i hl
      exact ⟨he, by omega, by unfold eachR; rw [if_pos h']⟩
  · rename_i he; exact absurd h he
theorem op_rows {op : List Jp → Int × List Jp} (h0 : (op []).1 = 0) {l : List Ed} (hv : ∀ e ∈ l, mayR e.1 = true) (h : evE op (byRows l) = 0) (r : List Vl) : (op (jmps l r)).1 = 0 := by
  by_cases hr : r ∈ rowsL l
  · exact evE_all h (r, jmps l r) (List.mem_map.2 ⟨r, hr, rfl⟩)
  · rw [mem_rows hv] at hr
    rw [Decidable.not_not.1 hr, h0]
theorem mayJ_rows {l : List Ed} (h : mayE l = true) (r : List Vl) : mayJ (jmps l r) = true := by
  obtain ⟨-, h2, h3⟩ := mayE_iff.1 h
  by_cases hr : r ∈ rowsL l
  · exact h3 (r, jmps l r) (by rw [grp_eq h2]; exact List.mem_map.2 ⟨r, hr, rfl⟩)
  · rw [mem_rows h2.1] at hr
    rw [Decidable.not_not.1 hr]; exact mayJ_nil
/-- What is made row by row has its rows in order. -/
theorem rise_rows (op : List Jp → Int × List Jp) (F : List Vl → List Jp) : ∀ rows : List (List Vl), rows.Pairwise rlt → (∀ r ∈ rows, mayR r = true) → Rise (evL op (rows.map fun q => (q, F q)))
  | [], _, _ => ⟨by simp [evL], List.Pairwise.nil⟩
  | q :: rows, h, hv => by
    have h' := List.pairwise_cons.1 h
    obtain ⟨i1, i2⟩ := rise_rows op F rows h'.2 fun r hr => hv r (by simp [hr])
    have e : evL op ((q :: rows).map fun q => (q, F q)) = ((op (F q)).2.map fun j => (q, j)) ++ evL op (rows.map fun q => (q, F q)) := by simp [evL]
    rw [e]
    have hq := hv q (by simp)
    refine ⟨fun x hx => ?_, ?_⟩
    · rcases List.mem_append.1 hx with hx | hx
      · obtain ⟨j, -, rfl⟩ := List.mem_map.1 hx; exact hq
      · exact i1 x hx
    · rw [List.pairwise_append]
      refine ⟨?_, i2, fun x hx y hy => ?_⟩
      · rw [List.pairwise_map]
        refine List.Pairwise.imp (R := fun _ _ => True) (fun _ => by rw [cmpT_self hq]; exact Int.le_refl 0) ?_
        exact List.pairwise_of_forall (fun _ _ => trivial)
      · obtain ⟨j, -, rfl⟩ := List.mem_map.1 hx
        simp only [evL, List.mem_flatMap, List.mem_map] at hy
        obtain ⟨g, ⟨r, hr, rfl⟩, j', -, rfl⟩ := hy
        have := (h'.1 r hr).2
        simp only
        omega
theorem rise_each (op : List Jp → Int × List Jp) {l : List Ed} (hv : ∀ e ∈ l, mayR e.1 = true) : Rise (evL op (byRows l)) :=
  rise_rows op _ _ (rowsL_ok hv).1 fun r hr => by obtain ⟨e, he, rfl⟩ := ((rowsL_ok hv).2 r).1 hr; exact hv e he
/-- What is made row by row is in form. -/
theorem may_each {op : List Jp → Int × List Jp} (h0 : (op []).2 = []) {l : List Ed} (hv : ∀ e ∈ l, mayR e.1 = true) (hl : (evL op (byRows l)).length ≤ 4096) (hj : ∀ r, mayJ (op (jmps l r)).2 = true) : mayE (evL op (byRows l)) = true := by
  have hr := rise_each op hv
  rw [mayE_iff]
  refine ⟨hl, hr, fun g hg => ?_⟩
  rw [((grp_rows hr).2.2 g hg).1, jmps_each h0 hv]
  exact hj g.1
theorem tell_zero (v : Int → Int) (h : ∀ p, v p = 0) : ∀ ps : List Int, tell v ps 0 = []
  | [] => rfl
  | p :: r => by rw [tell, if_pos (h p), h p]; exact tell_zero v h r
theorem ahOp_nil (t : Int) : ahOp t [] = (0, []) := by
  have e : ahL [] t = [] := tell_zero _ (fun p => by unfold ahV; split <;> rfl) _
  have e1 : ahE [] t = 0 := ahE_zero.2 ⟨mayJ_nil, by rw [e]; exact mayJ_nil⟩
  unfold ahOp ahR
  rw [e1, if_pos rfl, e]
theorem reOp_nil (t : Int) : reOp t [] = (0, []) := by
  have e : reL [] t = [] := by
    unfold reL
    split
    · rfl
    · exact tell_zero _ (fun p => rfl) _
  have e1 : reE [] t = 0 := reE_zero.2 ⟨mayJ_nil, by rw [e]; exact mayJ_nil⟩
  unfold reOp reR
  rw [e1, if_pos rfl, e]
/-- Two functions that agree on both sides are one. -/
theorem step_sides {f g : List Jp} {t : Int} (h0 : 0 ≤ t) (hF : t < 1125899906842624) (ea : ahE f t = 0) (eb : ahE g t = 0) (fa : reE f t = 0) (fb : reE g t = 0) (h1 : ahR f t = ahR g t) (h2 : reR f t = reR g t) : f = g := by
  have hf := (ahE_zero.1 ea).1
  have hg := (ahE_zero.1 eb).1
  refine one_form (mayJ_canon hf) (mayJ_canon hg) (fun j hj => (mayJ_at hf j hj).2) (fun j hj => (mayJ_at hg j hj).2) fun p hp => ?_
  have e : atV f p = atV g p := by
    by_cases hpt : p < t
    · rw [← ah_left ea hpt, ← ah_left eb hpt, h1]
    · rw [← re_right fa (by omega) h0 hF, ← re_right fb (by omega) h0 hF, h2]
  unfold atV at e
  rwa [hf, hg] at e
theorem mp_zero {op : List Jp → Int × List Jp} {l : List Ed} (h : mpE op l = 0) : mayE l = true ∧ evE op (byRows l) = 0 ∧ mpR op l = evL op (byRows l) := by
  unfold mpE at h
  by_cases hm : mayE l = true
  · rw [if_pos hm] at h
    obtain ⟨h1, -, h3⟩ := each_zero h
    rw [grp_eq (mayE_rise hm)] at h1 h3
    exact ⟨hm, h1, by unfold mpR; rw [if_pos hm, grp_eq (mayE_rise hm), h3]⟩
  · rw [if_neg hm] at h; cases h
theorem sides_one {a b : List Ed} {t : Int} (h0 : 0 ≤ t) (hF : t < 1125899906842624) (ea : mpE (ahOp t) a = 0) (eb : mpE (ahOp t) b = 0) (fa : mpE (reOp t) a = 0) (fb : mpE (reOp t) b = 0)
    (h1 : mpR (ahOp t) a = mpR (ahOp t) b) (h2 : mpR (reOp t) a = mpR (reOp t) b) : a = b := by
  obtain ⟨ma, ea1, ea2⟩ := mp_zero ea
  obtain ⟨mb, eb1, eb2⟩ := mp_zero eb
  obtain ⟨-, fa1, fa2⟩ := mp_zero fa
  obtain ⟨-, fb1, fb2⟩ := mp_zero fb
  have va := (mayE_rise ma).1
  have vb := (mayE_rise mb).1
  have n1 : (ahOp t []).1 = 0 := by rw [ahOp_nil]
  have n2 : (ahOp t []).2 = [] := by rw [ahOp_nil]
  have n3 : (reOp t []).1 = 0 := by rw [reOp_nil]
  have n4 : (reOp t []).2 = [] := by rw [reOp_nil]
  refine ed_ext (mayE_rise ma) (mayE_rise mb) fun r => ?_
  have k1 := congrArg (fun l => jmps l r) h1
  have k2 := congrArg (fun l => jmps l r) h2
  replace k1 : jmps (mpR (ahOp t) a) r = jmps (mpR (ahOp t) b) r := k1
  replace k2 : jmps (mpR (reOp t) a) r = jmps (mpR (reOp t) b) r := k2
  rw [ea2, eb2, jmps_each n2 va, jmps_each n2 vb] at k1
  rw [fa2, fb2, jmps_each n4 va, jmps_each n4 vb] at k2
  exact step_sides h0 hF (op_rows n1 va ea1 r) (op_rows n1 vb eb1 r) (op_rows n3 va fa1 r) (op_rows n3 vb fb1 r) k1 k2
/-- The order of two does not matter. -/
theorem ne_perm {l m : List Ed} (h : l.Perm m) : neE l = neE m ∧ neR l = neR m := by
  have e : neE l = neE m ∧ (l.any badE = false → eachR nmOp (byRows l) = eachR nmOp (byRows m)) := by
    unfold neE
    rw [any_perm h badE, any_perm h (fun e => nowJ e.2)]
    cases hb : m.any badE
    · have hv : ∀ e ∈ l, mayR e.1 = true := fun e he => by
        have := List.any_eq_false.1 hb e (h.mem_iff.1 he)
        unfold badE at this
        simp at this
        exact this.1
      obtain ⟨h1, h2⟩ := each_congr (op := nmOp) (rowsL_perm h hv) fun r => nmOp_perm (jmps_perm h r)
      exact ⟨by rw [h1], fun _ => h2⟩
    · exact ⟨by simp, fun k => by cases k⟩
  refine ⟨e.1, ?_⟩
  unfold neR
  rw [← e.1]
  by_cases h0 : neE l = 0
  · rw [if_pos h0, if_pos h0]
    refine e.2 ?_
    unfold neE at h0
    cases hb : l.any badE
    · rfl
    · rw [hb, if_pos rfl] at h0; cases h0
  · rw [if_neg h0, if_neg h0]
theorem ad_comm (a b : List Ed) : adE a b = adE b a ∧ adR a b = adR b a := by
  have h := ne_perm (List.perm_append_comm (l₁ := a) (l₂ := b))
  have e : adE a b = adE b a := by unfold adE; rw [Bool.and_comm, h.1]
  refine ⟨e, ?_⟩
  unfold adR
  rw [← e, h.2]
theorem ne_ok {l : List Ed} (h : ∀ e ∈ l, badE e = false ∧ nowJ e.2 = false) : neE l = eachE nmOp (byRows l) := by
  unfold neE
  have h1 : l.any badE = false := List.any_eq_false.2 fun e he => by rw [(h e he).1]; decide
  have h2 : (l.any fun e => nowJ e.2) = false := List.any_eq_false.2 fun e he => by rw [(h e he).2]; decide
  rw [h1, h2, if_neg (by decide), if_neg (by decide)]
theorem ne_zero {l : List Ed} (h : neE l = 0) : (∀ e ∈ l, badE e = false ∧ nowJ e.2 = false) ∧ eachE nmOp (byRows l) = 0 ∧ neR l = evL nmOp (byRows l) := by
  have h' := h
  unfold neE at h
  cases h1 : l.any badE
  · cases h2 : l.any fun e => nowJ e.2
    · rw [h1, h2, if_neg (by decide), if_neg (by decide)] at h
      refine ⟨fun e he => ⟨by simpa using List.any_eq_false.1 h1 e he, by simpa using List.any_eq_false.1 h2 e he⟩, h, ?_⟩
      unfold neR
      rw [if_pos h', (each_zero h).2.2]
    · rw [h1, h2, if_neg (by decide), if_pos rfl] at h; cases h
  · rw [h1, if_pos rfl] at h; cases h
theorem nmOp_nil : nmOp [] = (0, []) := by decide
theorem okJ_fine {j : Jp} (h : okJ j = true) : tooJ j = false ∧ nowJ j = false := by
  have := okJ_iff.1 h
  unfold tooJ nowJ
  rw [decide_eq_false_iff_not, decide_eq_false_iff_not]
  omega
theorem may_fine {l : List Ed} (h : mayE l = true) : ∀ e ∈ l, badE e = false ∧ nowJ e.2 = false := fun e he => by
  obtain ⟨-, h2, -, -⟩ := mayE_doc.1 h
  obtain ⟨h3, h4⟩ := h2 e he
  obtain ⟨h5, h6⟩ := okJ_fine h4
  refine ⟨?_, h6⟩
  unfold badE
  rw [h3, h5]; rfl
theorem ng_may {f : List Jp} (h : mayJ f = true) : mayJ (ngL f) = true := by
  obtain ⟨h1, h2, h3⟩ := mayJ_iff.1 h
  rw [mayJ_iff]
  refine ⟨by unfold ngL; rw [List.length_map]; exact h1, fun j hj => ?_, ?_⟩
  · obtain ⟨k, hk, rfl⟩ := List.mem_map.1 hj
    have := okJ_iff.1 (h2 k hk)
    rw [okJ_iff]
    simp only
    omega
  · unfold ngL Asc at *
    rw [List.pairwise_map]
    exact h3
theorem ng_jv (f : List Jp) (t : Int) : jv (ngL f) t = - jv f t := by
  induction f with
  | nil => rfl
  | cons j f ih =>
    unfold ngL at ih ⊢
    rw [List.map_cons, jv, jv, ih]
    simp only
    split <;> omega
theorem ngOp_ok {f : List Jp} (h : mayJ f = true) : ngOp f = (0, ngL f) := by unfold ngOp ngE ngR; rw [h]; rfl
theorem nm_canon (l : List Jp) : Canon (nmL l) := tell_canon _ _ _ (plc_asc _ _ Asc.nil')
/-- A function that is added and taken away. -/
theorem nm_undo {f g h : List Jp} (hf : mayJ f = true) (hg : mayJ g = true) (hh : h = (nmOp (f ++ g)).2) (h0 : (nmOp (f ++ g)).1 = 0) : nmOp (h ++ ngL g) = (0, f) := by
  have hfg : ∀ j ∈ f ++ g, nowJ j = false := fun j hj => by
    rcases List.mem_append.1 hj with hj | hj
    · exact (okJ_fine ((mayJ_iff.1 hf).2.1 j hj)).2
    · exact (okJ_fine ((mayJ_iff.1 hg).2.1 j hj)).2
  have hE : nmE (f ++ g) = 0 := h0
  have hh2 : h = nmL (f ++ g) := by rw [hh]; show nmR (f ++ g) = _; unfold nmR; rw [if_pos hE]
  have hhm : mayJ h = true := by
    rw [hh2]
    unfold nmE at hE
    split at hE
    · cases hE
    · split at hE
      · cases hE
      · exact full_zero.1 hE
  have hok : ∀ j ∈ h ++ ngL g, tooJ j = false ∧ nowJ j = false := fun j hj => by
    rcases List.mem_append.1 hj with hj | hj
    · exact okJ_fine ((mayJ_iff.1 hhm).2.1 j hj)
    · exact okJ_fine ((mayJ_iff.1 (ng_may hg)).2.1 j hj)
  have e : nmL (h ++ ngL g) = f := by
    refine one_form (nm_canon _) (mayJ_canon hf) (nmL_lt _ fun j hj => (hok j hj).2) (fun j hj => (mayJ_at hf j hj).2) fun t ht => ?_
    rw [nmL_val _ (fun j hj => (hok j hj).2) t ht, jv_append, ng_jv, hh2, nmL_val _ hfg t ht, jv_append]
    omega
  have e1 : nmE (h ++ ngL g) = 0 := by
    unfold nmE
    have a1 : (h ++ ngL g).any tooJ = false := List.any_eq_false.2 fun j hj => by rw [(hok j hj).1]; decide
    have a2 : (h ++ ngL g).any nowJ = false := List.any_eq_false.2 fun j hj => by rw [(hok j hj).2]; decide
    rw [a1, a2, if_neg (by decide), if_neg (by decide), e]
    exact full_zero.2 hf
  unfold nmOp nmR
  rw [e1, if_pos rfl, e]
theorem ev_len {op : List Jp → Int × List Jp} : ∀ {G : List Gp}, (∀ g ∈ G, (op g.2).2.length = g.2.length) → (evL op G).length = (evL (fun f => (0, f)) G).length
  | [], _ => rfl
  | g :: t, h => by
    have ih := ev_len fun x hx => h x (List.mem_cons_of_mem _ hx)
    simp only [evL, List.flatMap_cons, List.length_append, List.length_map] at ih ⊢
    rw [ih, h g (by simp)]
theorem neg_ok {b : List Ed} (h : mayE b = true) : mpE ngOp b = 0 ∧ mayE (mpR ngOp b) = true ∧ ∀ r, jmps (mpR ngOp b) r = ngL (jmps b r) := by
  have hr := mayE_rise h
  have hop : ∀ r, ngOp (jmps b r) = (0, ngL (jmps b r)) := fun r => ngOp_ok (mayJ_rows h r)
  have hev : evE ngOp (byRows b) = 0 := evE_ok fun g hg => by
    obtain ⟨r, -, rfl⟩ := List.mem_map.1 hg
    simp only
    rw [hop r]
  have hlen : (evL ngOp (byRows b)).length ≤ 4096 := by
    rw [ev_len fun g hg => by
      obtain ⟨r, -, rfl⟩ := List.mem_map.1 hg
      simp only
      rw [hop r]
      simp [ngL], ← grp_eq hr, grp_back]
    exact mayE_len h
  have he : eachE ngOp (byRows b) = 0 := by unfold eachE; rw [if_pos hev, if_neg (by omega)]
  have hR : mpR ngOp b = evL ngOp (byRows b) := by unfold mpR; rw [if_pos h, grp_eq hr, (each_zero he).2.2]
  refine ⟨by unfold mpE; rw [if_pos h, grp_eq hr, he], ?_, fun r => ?_⟩
  · rw [hR]
    exact may_each rfl hr.1 hlen fun r => by rw [hop r]; exact ng_may (mayJ_rows h r)
  · rw [hR, jmps_each rfl hr.1, hop r]
/-- What is added and taken away is as if it had not been there. -/
theorem undo_ok {a b : List Ed} (h : adE a b = 0) : mpE ngOp b = 0 ∧ adE (adR a b) (mpR ngOp b) = 0 ∧ adR (adR a b) (mpR ngOp b) = a := by
  have hm : mayE a = true ∧ mayE b = true := by
    unfold adE at h
    cases ha : mayE a
    · rw [ha, Bool.false_and, if_neg (by decide)] at h; cases h
    · cases hb : mayE b
      · rw [ha, hb, Bool.true_and, if_neg (by decide)] at h; cases h
      · exact ⟨rfl, rfl⟩
  obtain ⟨ha, hb⟩ := hm
  have hne : neE (a ++ b) = 0 := by unfold adE at h; rwa [ha, hb, Bool.true_and, if_pos rfl] at h
  obtain ⟨hn1, hn2, hn3⟩ := neg_ok hb
  obtain ⟨q1, q2, q3⟩ := ne_zero hne
  obtain ⟨q4, q5, q6⟩ := each_zero q2
  have hx : adR a b = evL nmOp (byRows (a ++ b)) := by unfold adR; rw [if_pos h, q3]
  have hv : ∀ e ∈ a ++ b, mayR e.1 = true := fun e he => by
    rcases List.mem_append.1 he with he | he
    · exact (mayE_rise ha).1 e he
    · exact (mayE_rise hb).1 e he
  have o1 : (nmOp []).1 = 0 := by rw [nmOp_nil]
  have o2 : (nmOp []).2 = [] := by rw [nmOp_nil]
  have hxr : ∀ r, jmps (adR a b) r = (nmOp (jmps a r ++ jmps b r)).2 ∧ (nmOp (jmps a r ++ jmps b r)).1 = 0 := fun r => by
    have k := op_rows o1 hv q4 r
    rw [jmps_append] at k
    exact ⟨by rw [hx, jmps_each o2 hv, jmps_append], k⟩
  have hund : ∀ r, nmOp (jmps (adR a b ++ mpR ngOp b) r) = (0, jmps a r) := fun r => by
    rw [jmps_append, hn3 r]
    exact nm_undo (mayJ_rows ha r) (mayJ_rows hb r) (hxr r).1 (hxr r).2
  have hmx : mayE (adR a b) = true := by
    rw [hx]
    refine may_each o2 hv q5 fun r => ?_
    rw [jmps_append]
    have k := (hxr r).2
    have hE : nmE (jmps a r ++ jmps b r) = 0 := k
    show mayJ (nmR _) = true
    unfold nmR
    rw [if_pos hE]
    unfold nmE at hE
    split at hE
    · cases hE
    · split at hE
      · cases hE
      · exact full_zero.1 hE
  have hfine : ∀ e ∈ adR a b ++ mpR ngOp b, badE e = false ∧ nowJ e.2 = false := fun e he => by
    rcases List.mem_append.1 he with he | he
    · exact may_fine hmx e he
    · exact may_fine hn2 e he
  have hv2 : ∀ e ∈ adR a b ++ mpR ngOp b, mayR e.1 = true := fun e he => by
    rcases List.mem_append.1 he with he | he
    · exact (mayE_rise hmx).1 e he
    · exact (mayE_rise hn2).1 e he
  have hev : evE nmOp (byRows (adR a b ++ mpR ngOp b)) = 0 := evE_ok fun g hg => by
    obtain ⟨r, -, rfl⟩ := List.mem_map.1 hg
    simp only
    rw [hund r]
  have hz : evL nmOp (byRows (adR a b ++ mpR ngOp b)) = a := ed_ext (rise_each nmOp hv2) (mayE_rise ha) fun r => by rw [jmps_each o2 hv2, hund r]
  have he : eachE nmOp (byRows (adR a b ++ mpR ngOp b)) = 0 := by
    unfold eachE
    have := mayE_len ha
    rw [if_pos hev, hz, if_neg (by omega)]
  have hne2 : neE (adR a b ++ mpR ngOp b) = 0 := by rw [ne_ok hfine, he]
  have hadd : adE (adR a b) (mpR ngOp b) = 0 := by unfold adE; rw [hmx, hn2, Bool.true_and, if_pos rfl, hne2]
  refine ⟨hn1, hadd, ?_⟩
  unfold adR at *
  rw [if_pos hadd, (ne_zero hne2).2.2, hz]
end Go.Proofs.YtgniebjigphcgaaGreat
set_option linter.unusedVariables false
set_option linter.unusedSimpArgs false
namespace Go.Proofs.YtgniebjigphcgaaGreat
open Go.RowKit
attribute [local go_sem] GW.cell GW.frozen In.eq_true In.le_true In.ne In.ne' In.ne_add In.ne_add' In.lt_add Upto.le_true Upto.le_add Upto.lt_add Oper.semAt_some wide_depth wide_fn
def cpOp (f : List Jp) : Int × List Jp := (0, f)
set_option maxHeartbeats 8000000 in
set_option maxRecDepth 100000 in
theorem copies_c (L : List Ve) (v : Value) (w : World) (hC : Ew w [] v L) (hL : L.length ≤ 8192) (hG : ∀ g ∈ grp (eds L), g.1.length ≤ 8 ∧ g.2.length ≤ 1024) : Calls Tryz.prog 76 #[v] w fun e w' => ∃ v' M, e = .returned v' ∧ eds M = eds L ∧ OwnEr w' w.heap.size v' M ∧ Ext w w' := by
  obtain ⟨A, cap, rfl, hlc, hlm, -⟩ := ew_form hC
  unfold maxLen at hlm
  refine calls_marks Tryz.func76 rfl ?_
  simp only [Tryz.ntmps76, List.size_toArray, List.length_cons, List.length_nil, Nat.reduceAdd, Nat.reduceSub, Array.replicate_succ, Array.replicate_zero, List.push_toArray, List.append_toArray, List.nil_append, List.cons_append]
  have a3 : Ob (w.alloc (.cells #[.slice none 0 0] 32)) w.heap.size 32 [.slice none 0 0] := Ob.new w 32 [.slice none 0 0]
  have hX0 : Ext w (w.alloc (.cells #[.slice none 0 0] 32)) := (Ext.refl w).alloc _
  have hGl := grp_len (eds L)
  rw [List.length_map] at hGl
  replace hG := hide hG
  replace hC := hide hC
  go_wp2_with (go_at_call 62; refine (functions_c _ _ _ _).mono ?_; rintro ee w1 ⟨b, rfl, hb, hle, hX1⟩)
  have hX2 := hide (hX0.trans hX1)
  have p3 := a3.ext hX1
  have hz2 := hX2.out.size
  obtain ⟨b3, hb3⟩ : ∃ b3, w.heap.size = b3 := ⟨_, rfl⟩
  rw [hb3] at p3
  clear a3 hle hX0 hX1
  refine wp_range (xs := grp (eds L)) rfl (enters_of Tryz.func93 (by kernel_rfl) rfl) (functions_seq L _ w w1 b hC.out (by omega) hX2.out hb) (Ext.refl _) hX2.out.size (fun x vs W h => h.size) (fun x vs => Hg.stab x vs)
    (fun k W => (∃ mv, ∃ M : List Ve, (Ob W b3 32 [mv] ∧ (OwnE W (b3 + 1) mv M ∧ ∀ p, ∀ (_ : p ∈ M), Rw W (ob mv ++ List.range (b3 + 1)) p.1 p.2.1)) ∧ (eds M = evL cpOp ((grp (eds L)).take k) ∧ M.length ≤ 1024 * k)) ∧ Ext w W)
    (fun c k W => False ∧ Ext w W)
    (fun k => (Stab.ex fun mv => Stab.ex fun M => ((Stab.ob _ _ _).and ((Stab.own _ _ _ _ _ _).and (Stab.all fun p => Stab.all fun _ => Stab.sl _ _ _ _ _))).and (Stab.pure _)).and (Stab.of_ext hz2))
    (fun c k => (Stab.pure _).and (Stab.of_ext hz2))
    ⟨⟨_, [], ⟨p3, World.ownsRow_nil _ _ _ _, by simp⟩, by simp [evL, eds], by simp⟩, hX2.out⟩
    (fun k x vs a' _ => ∃ r f, vs = #[r, f] ∧ a' = { tmps := #[.slice A L.length cap, undef, .slice none 0 0, .pointer (some ⟨b3, 0, none⟩), r, f, .slice A L.length cap, .func (.func 93) #[] #[.pointer (some ⟨b, 0, none⟩)], r, f, undef, undef, undef, undef, undef, undef], defers := [] })
    (fun k x vs a' => Stab.pure _) ?assign ?body ?done ?stop
  case assign =>
    rintro LL k x vs W K _ ⟨r, f, rfl, -, -⟩ hK
    gi_wp2
    exact hK _ _ (Ext.refl _) ⟨r, f, rfl, by rw [← hb3]⟩
  case body =>
    rintro LL k x vs a' W hx ⟨⟨mv, M, ⟨o3, hMo, hMr⟩, hMe, hMl⟩, hXw⟩ ⟨r', f', e', hr, hf⟩ ⟨r, f, rfl, rfl⟩
    obtain ⟨rfl, rfl⟩ : r = r' ∧ f = f' := by simpa using e'
    obtain ⟨q, J⟩ := x
    have hgm : (q, J) ∈ grp (eds L) := List.mem_of_getElem? hx
    have hkl := (List.getElem?_eq_some_iff.1 hx).1
    obtain ⟨h8, hJl⟩ := hG.out (q, J) hgm
    simp only at h8 hJl
    have hb3W := o3.lt
    have hzW := hXw.size
    have hfk := hide hf
    obtain ⟨JA, jcap, rfl, -, -, -⟩ := jw_form hf
    obtain ⟨RA, rcap, rfl⟩ := rw_val hr
    have hnx := hide (show evL cpOp ((grp (eds L)).take (k + 1)) = evL cpOp ((grp (eds L)).take k) ++ J.map fun j => (q, j) by rw [List.take_add_one, hx, Option.toList_some, evL_snoc]; rfl)
    replace hMe := hide hMe
    clear hx hgm hf
    obtain ⟨MA, mcap, rfl⟩ := own_form hMo
    have hM0 : OwnEr W (b3 + 1) (.slice MA M.length mcap) M := ⟨hMo, fun p hp => hMr p hp⟩
    replace hM0 := hide hM0
    clear hMo hMr
    have q3 := hide (o3.cell 0 rfl)
    have hed := hide (fun w' (hX' : Ext W w') => edgesOf_c q J (.slice RA q.length rcap) (.slice JA J.length jcap) w' (Sl.ext hr hX') h8 (Sl.ext hfk.out hX') (by omega))
    try gi_wp2_with fail
    refine wpIn_region_list_tail 4 [(.is (.slice MA M.length mcap)), (.is (.slice RA q.length rcap)), (.is (.slice JA J.length jcap)), ownF W.heap.size q J] (by kernel_rfl) (by kernel_rfl) (by kernel_rfl) (by kernel_rfl) (by kernel_rfl) (by kernel_rfl) (by kernel_rfl) (by kernel_rfl) ?_ ?_
    · refine ⟨?_, ?_, ?_, ?_, trivial⟩
      · intro b w' h hE
        have f3 : b.tmps.getD 3 undef = .pointer (some ⟨b3, 0, none⟩) := hE 3 (of_decide_eq_true (by kernel_rfl))
        have c0 := cell_later h.ext q3.out
        exact good_load (wanted_none rfl) rfl f3 (by simp [go_sem, c0]) rfl
      · intro b w' h hE
        have f4 : b.tmps.getD 4 undef = .slice RA q.length rcap := hE 4 (of_decide_eq_true (by kernel_rfl))
        exact good_move (wanted_none rfl) rfl f4
      · intro b w' h hE
        have f5 : b.tmps.getD 5 undef = .slice JA J.length jcap := hE 5 (of_decide_eq_true (by kernel_rfl))
        exact good_move (wanted_none rfl) rfl f5
      · intro b w' h hE
        have f11 : b.tmps.getD 11 undef = .slice RA q.length rcap := h.dep 1 _ 11 (by kernel_rfl) rfl rfl
        have g11 : b.tmps[11]?.getD undef = .slice RA q.length rcap := by rw [← Array.getD_eq_getD_getElem?]; exact f11
        have f12 : b.tmps.getD 12 undef = .slice JA J.length jcap := h.dep 2 _ 12 (by kernel_rfl) rfl rfl
        have g12 : b.tmps[12]?.getD undef = .slice JA J.length jcap := by rw [← Array.getD_eq_getD_getElem?]; exact f12
        refine good_call (wanted_none rfl) rfl (enters Tryz.func95 (by kernel_rfl) rfl) ?_
        rw [show (#[.tmp 11, .tmp 12] : Array Operand).map b.eval = #[.slice RA q.length rcap, .slice JA J.length jcap] by simp [Act.eval, g11, g12]]
        exact (hed.out w' h.ext).mono fun e w1 ⟨v, M2, he, hM2, ho, hx⟩ => ⟨v, he, ⟨M2, hM2, ho.lower h.ext.size⟩, hx⟩
    · intro b w2 hX2 hd hz he' hf
      have e10 : b.tmps.getD 10 undef = .slice MA M.length mcap := hf 0 _ 10 (by omega) rfl rfl
      have e11 : b.tmps.getD 11 undef = .slice RA q.length rcap := hf 1 _ 11 (by omega) rfl rfl
      have e12 : b.tmps.getD 12 undef = .slice JA J.length jcap := hf 2 _ 12 (by omega) rfl rfl
      have f13 : ∃ M2, eds M2 = J.map (fun j => (q, j)) ∧ OwnEr w2 W.heap.size (b.tmps.getD 13 undef) M2 := hf 3 _ 13 (by omega) rfl rfl
      have e := frame_puts hd hz he'
      obtain ⟨X, hXx⟩ : ∃ X : Nat → Value, ∀ d, b.tmps.getD d undef = X d := ⟨_, fun _ => rfl⟩
      rw [hXx] at e10 e11 e12 f13
      obtain ⟨M2, hM2, f13⟩ := f13
      obtain ⟨A13, c13, q13⟩ := own_form f13.1
      rw [show dstsOf _ = [10, 11, 12, 13] from rfl] at e
      simp only [List.foldl_cons, List.foldl_nil, hXx, Act.put, List.setIfInBounds_toArray, List.set_cons_succ, List.set_cons_zero] at e
      rw [e10, e11, e12, q13] at e
      rw [q13] at f13
      replace f13 := hide f13
      clear hf he' hz hd hXx e10 e11 e12 q13
      subst e
      have hzw := hX2.size
      simp only [List.drop_succ_cons, List.drop_zero]
      have hl2 : M2.length = J.length := by have := congrArg List.length hM2; simpa [eds] using this
      have o3b := hide (o3.ext hX2)
      have hMb := hide (hM0.out.ext hX2)
      have hno := Ob.not_own o3b.out hMb.out.1 (by decide)
      replace hM2 := hide hM2
      replace hl2 := hide hl2
      go_wp2_with (at_builtin; (refine wpl_app tEdg rfl (.tmp 10) (.tmp 13) rfl rfl hMb.out.1 rfl (src_sl Tryz.underlying32 f13.out.ew.1 (Ew.one f13.out.ew) (by omega)) (by unfold maxLen; have := hl2.out; omega) (by have := hl2.out; omega) (by omega) ?_; intro v8 w8 ho8 hg8 hob8; obtain ⟨A8, c8, rfl⟩ := own_form ho8; have o3c := o3b.out.grown hg8 (Ne.symm hno); have k3 := o3c.cell 0 rfl; have f3 := o3c.free 0; have hlt3 := o3c.lt; haveI : In b3 w8 := ⟨hlt3⟩))
      have hM8 : OwnEr w8 (b3 + 1) (.slice A8 (M.length + M2.length) c8) (M ++ M2) := hMb.out.app (own_appE ho8) hg8 hob8 (fun p hp => ⟨_, f13.out.2 p hp, fun q hq => List.mem_append_right _ (List.mem_range.2 (by
        rcases List.mem_append.1 hq with hq | hq
        · have := (ob_ge hM0.out.1 q hq).2; omega
        · have := List.mem_range.1 hq; omega))⟩)
      have hFr : Fr (ob (Value.slice MA M.length mcap) ++ [b3]) W (w8.setCell ⟨b3, 0, none⟩ (.slice A8 (M.length + M2.length) c8)) := ((Fr.of_ext hX2).grown hg8 (fun k hk => .inl (List.mem_append_left _ (by unfold ob; rw [show (Value.slice MA M.length mcap).ownBlock = some k from hk]; exact List.mem_singleton.2 rfl)))).setCell ⟨b3, 0, none⟩ _ (.inl (by simp))
      have hge : ∀ y ∈ ob (Value.slice MA M.length mcap) ++ [b3], w.heap.size ≤ y := fun y hy => by
        rcases List.mem_append.1 hy with hy | hy
        · have := (ob_ge hM0.out.1 y hy).1; omega
        · obtain rfl := List.mem_singleton.1 hy; omega
      have hcl : ∀ y ∈ ob (Value.slice MA M.length mcap) ++ [b3], ∃ T vs, Ob W y T vs := fun y hy => by
        rcases List.mem_append.1 hy with hy | hy
        · exact ob_obj hM0.out.1 y hy
        · obtain rfl := List.mem_singleton.1 hy; exact ⟨_, _, o3⟩
      have hXe : Ext w (w8.setCell ⟨b3, 0, none⟩ (.slice A8 (M.length + M2.length) c8)) := (ext_grown (hXw.trans hX2) hg8 (fun k hk => by have := (hM0.out.1.lt k hk).1; omega)).setCell (p := ⟨b3, 0, none⟩) (by show w.heap.size ≤ b3; omega) _
      have hF3 : Fr [b3] w8 (w8.setCell ⟨b3, 0, none⟩ (.slice A8 (M.length + M2.length) c8)) := (Fr.refl [b3] w8).setCell ⟨b3, 0, none⟩ _ (.inl (by simp))
      exact show KeepsFrom _ W _ ∧ Below w.heap.size W _ ∧ _ from ⟨keeps_fr hFr hcl, below_fr hFr hzW hge,
        ⟨_, M ++ M2, ⟨o3c.set 0 _, own_fr hM8.1 hF3 (by simp), fun p hp => Sl.set (hM8.2 p hp) _ _ (List.mem_append_right _ (List.mem_range.2 (by show b3 < b3 + 1; omega)))⟩,
          by show eds (M ++ M2) = _; rw [hnx.out, ← hMe.out, ← hM2.out]; simp [eds], by have := hl2.out; rw [List.length_append]; omega⟩, hXe⟩
  case done =>
    rintro D W hD ⟨⟨mv, M, ⟨o3, hMo, hMr⟩, hMe, hMl⟩, hXw⟩ hK
    rw [List.take_of_length_le (Nat.le_refl _), show cpOp = fun f => (0, f) from rfl, grp_back] at hMe
    have q3 := o3.cell 0 rfl
    have l3 := o3.lt
    obtain ⟨MA, mcap, rfl⟩ := own_form hMo
    have hM0 : OwnEr W (b3 + 1) (.slice MA M.length mcap) M := ⟨hMo, fun p hp => hMr p hp⟩
    replace hM0 := hide hM0
    replace hMe := hide hMe
    clear hMo hMr
    subst hb3
    go_wp2
    have hM2 : OwnEr (W.putObj D (.deferred none)) (w.heap.size + 1) (.slice MA M.length mcap) M :=
      ⟨(Stab.own (B := 0) _ _ _ _ _ _).put _ D _ _ hM0.out.1 (Nat.zero_le _) hK rfl, fun p hp => (Stab.sl (B := 0) _ _ _ _ _).put _ D _ _ (hM0.out.2 p hp) (Nat.zero_le _) hK rfl⟩
    refine ret_mark hK (v := .slice MA M.length mcap) ?_ ⟨_, M, rfl, hMe.out, hM2.lower (by omega), put_ext hXw (by omega) _⟩
    simp [results, Tryz.f76, go_sem]
  case stop =>
    rintro D c k W hD hk ⟨h, -⟩ hK
    exact h.elim
end Go.Proofs.YtgniebjigphcgaaGreat
set_option linter.unusedVariables false
set_option linter.unusedSimpArgs false
namespace Go.Proofs.YtgniebjigphcgaaGreat
open Go.RowKit
attribute [local go_sem] GW.cell GW.frozen In.eq_true In.le_true In.ne In.ne' In.ne_add In.ne_add' In.lt_add Upto.le_true Upto.le_add Upto.lt_add Oper.semAt_some wide_depth wide_fn
theorem grp_len2 : ∀ l : List Ed, (grp l).length ≤ l.length
  | [] => Nat.le_refl _
  | e :: l => by
    have ih := grp_len2 l
    rw [grp]
    split
    · simp
    · rename_i q f t h
      rw [h] at ih
      split <;> simp only [List.length_cons] at ih ⊢ <;> omega
/-- What is kept: a copy of the edges, if they are in form. -/
def GrPost (w : World) (L : List Ve) (b : Nat) (w' : World) : Prop := ∃ v' M, Ob w' b 32 [v'] ∧ eds M = (if mayE (eds L) then eds L else []) ∧ Ew w' [] v' M ∧ Ext w w'
set_option maxHeartbeats 8000000 in
set_option maxRecDepth 100000 in
theorem groups_c (L : List Ve) (v : Value) (w : World) (hC : Ew w [] v L) : Calls Tryz.prog 42 #[v] w fun e w' => ∃ b, e = .returned (.func (.func 77) #[] #[.pointer (some ⟨b, 0, none⟩)]) ∧ GrPost w L b w' := by
  have h1 := hide (fun w' (hX : Ext w w') => edgeMay_c L v w' (hC.ext hX))
  have hC' := hide hC
  obtain ⟨A, cap, rfl, hlc, hlm, -⟩ := ew_form hC
  have a3 : Ob (w.alloc (.cells #[.slice none 0 0] 32)) w.heap.size 32 [.slice none 0 0] := Ob.new w 32 [.slice none 0 0]
  have hX0 := hide ((Ext.refl w).alloc (.cells #[.slice none 0 0] 32))
  replace a3 := hide a3
  clear hC
  cases ha : mayE (eds L)
  · rw [ha] at h1
    go_enter Tryz.func42, Tryz.ntmps42
    go_wp2_with (go_at_call 40; (with_reducible refine seq_gw (h1.out _ hX0.out) ?_); intro g)
    go_returns
    exact ⟨_, rfl, show GrPost _ _ _ _ from ⟨_, [], a3.out.ext g.grown, by rw [ha]; rfl, ⟨Sl.nil _ _ _, by simp⟩, hX0.out.trans g.grown⟩⟩
  · rw [ha] at h1
    have hll : L.length ≤ 8192 := by have := mayE_len ha; simp [eds] at this; omega
    have hG := hide (show ∀ g ∈ grp (eds L), g.1.length ≤ 8 ∧ g.2.length ≤ 1024 from fun g hg => ⟨grp_r8 ha g hg, mayJ_len ((mayE_iff.1 ha).2.2 g hg)⟩)
    have hcp := hide (fun w' (hX : Ext w w') => copies_c L (.slice A L.length cap) w' (hC'.out.ext hX) hll hG.out)
    have ha' := hide ha
    clear ha
    go_enter Tryz.func42, Tryz.ntmps42
    go_wp2_with (first
      | (go_at_call 40; (with_reducible refine seq_gw (h1.out _ hX0.out) ?_); intro g)
      | (go_at_call 76; refine (hcp.out _ (hX0.out.trans g.grown)).mono ?_; rintro ee w2 ⟨v2, M, rfl, hM, ho2, hx2⟩; have o3 := (a3.out.ext g.grown).ext hx2; have hlt3 := o3.lt; have hc3 := o3.cell 0 rfl; have hfr3 := o3.free 0; obtain ⟨C2, c2, q2⟩ := own_form ho2.1; subst q2; haveI : In w.heap.size w2 := ⟨hlt3⟩))
    go_returns
    have hlg : w.heap.size < g.val.heap.size := by have := (a3.out.ext g.grown).lt; exact this
    have he : Ew w2 [w.heap.size] (.slice C2 M.length c2) M := ⟨Sl.own ho2.1 (fun x hx => by simp at hx; omega), fun p hp => Sl.less (ho2.2 p hp) (fun x hx => by simp at hx; subst hx; exact List.mem_append_right _ (List.mem_range.2 hlg))⟩
    refine ⟨_, rfl, show GrPost _ _ _ _ from ⟨_, M, o3.set 0 _, by rw [hM, ha'.out]; rfl, (he.fr ((Fr.refl [w.heap.size] w2).setCell ⟨w.heap.size, 0, none⟩ _ (.inl (by simp))) (fun _ h => h)).less (by simp), ((hX0.out.trans g.grown).trans hx2).setCell (p := ⟨w.heap.size, 0, none⟩) (by simp) _⟩⟩
end Go.Proofs.YtgniebjigphcgaaGreat
