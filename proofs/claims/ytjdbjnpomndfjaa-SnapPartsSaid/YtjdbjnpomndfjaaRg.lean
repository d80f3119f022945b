/-
  A helper of ours: no claim of its own. A range over a function that itself ranges over a function: what a round leaves alone ('Fb': blocks that are none of the round's), and the law on the statement.
-/
import Derived.Test.YtjdbjnpomndfjaaSnaA
import Derived.Test.YtjdbjnpomndfjaaReg3
set_option linter.unusedVariables false
set_option linter.unusedSimpArgs false
namespace Go.Proofs.Ytjdbjnpomndfjaa
open Go.RowKit
attribute [local go_sem] GW.cell GW.frozen In.eq_true In.le_true In.ne In.ne' In.ne_add In.ne_add' In.lt_add Upto.le_true Upto.le_add Upto.lt_add
theorem put_len (T : List Int) (t : Int) : (putM ckent T t).length ≤ T.length + 1 := by
  unfold putM delM
  rw [List.length_cons]
  have := List.length_filter_le (fun q => !(ckent q).1.sameKey (ckent t).1) T
  omega
theorem mayE_at {l : List Ed} (h : mayE l = true) {e : Ed} (he : e ∈ l) : -1 ≤ e.2.1 ∧ e.2.1 < 1125899906842624 := by
  have := (okJ_iff.1 ((mayE_doc.1 h).2.1 e he).2)
  exact ⟨this.1, this.2.1⟩
set_option maxHeartbeats 8000000 in
set_option maxRecDepth 100000 in
theorem snCuts_c (L : List Ve) (f : Int) (v : Value) (w : World) (hC : Ew w [] v L) : Calls Try.prog 17 #[v, .int .i64 f] w fun e w' => ∃ v', e = .returned (.tuple #[v', .int .i64 (cuE (eds L) f)]) ∧ OwnZ w' w.heap.size v' (cuL (eds L) f) ∧ Ext w w' := by
  have h1 := hide (fun w' (hX : Ext w w') => edgeMay_c L v w' (hC.ext hX))
  have h2 := hide (fun w' (hX : Ext w w') => edgeTable_c L v w' (hC.ext hX))
  have hC' := hide hC
  obtain ⟨A, cap, rfl, hlc, hlm, -⟩ := ew_form hC
  unfold maxLen at hlm
  clear hC
  cases ha : mayE (eds L)
  · have e1 : cuE (eds L) f = 2 := by unfold cuE; rw [ha]; rfl
    have e2 : cuL (eds L) f = [] := by unfold cuL; rw [e1]; rfl
    rw [e1, e2]
    rw [ha] at h1
    clear ha e1 e2
    go_enter Try.func17, Try.ntmps17
    go_wp2_with (go_at_call 45; (with_reducible refine seq_gw (h1.out _ (Ext.refl _)) ?_); intro g)
    go_returns
    exact ⟨_, rfl, World.ownsRow_nil _ _ _ _, g.grown⟩
  rw [ha] at h1
  cases hb : tabE (eds L)
  · have e1 : cuE (eds L) f = 20 := by unfold cuE; rw [ha, hb]; rfl
    have e2 : cuL (eds L) f = [] := by unfold cuL; rw [e1]; rfl
    rw [e1, e2]
    rw [hb] at h2
    clear ha hb e1 e2
    go_enter Try.func17, Try.ntmps17
    go_wp2_with (first | (go_at_call 45; (with_reducible refine seq_gw (h1.out _ (Ext.refl _)) ?_); intro g) | (go_at_call 35; (with_reducible refine seq_gw' (h2.out _ g.grown) ?_); intro g2))
    go_returns
    exact ⟨_, rfl, World.ownsRow_nil _ _ _ _, g2.grown⟩
  rw [hb] at h2
  by_cases hlo : f < 0
  · have e0 : stick f = false := by unfold stick; simp; omega
    have e1 : cuE (eds L) f = 13 := by unfold cuE; rw [ha, hb, e0]; rfl
    have e2 : cuL (eds L) f = [] := by unfold cuL; rw [e1]; rfl
    rw [e1, e2]
    clear ha hb e0 e1 e2
    go_enter Try.func17, Try.ntmps17
    go_wp2_with (first | (go_at_call 45; (with_reducible refine seq_gw (h1.out _ (Ext.refl _)) ?_); intro g) | (go_at_call 35; (with_reducible refine seq_gw' (h2.out _ g.grown) ?_); intro g2))
    go_returns
    exact ⟨_, rfl, World.ownsRow_nil _ _ _ _, g2.grown⟩
  by_cases hhi : 1125899906842624 < f
  · have e0 : stick f = false := by unfold stick; simp; omega
    have e1 : cuE (eds L) f = 13 := by unfold cuE; rw [ha, hb, e0]; rfl
    have e2 : cuL (eds L) f = [] := by unfold cuL; rw [e1]; rfl
    rw [e1, e2]
    clear ha hb e0 e1 e2
    go_enter Try.func17, Try.ntmps17
    go_wp2_with (first | (go_at_call 45; (with_reducible refine seq_gw (h1.out _ (Ext.refl _)) ?_); intro g) | (go_at_call 35; (with_reducible refine seq_gw' (h2.out _ g.grown) ?_); intro g2))
    go_returns
    exact ⟨_, rfl, World.ownsRow_nil _ _ _ _, g2.grown⟩
  have e0 : stick f = true := stick_iff.2 ⟨by omega, by omega⟩
  have e1 : cuE (eds L) f = 0 := by unfold cuE; rw [ha, hb, e0]; rfl
  rw [e1]
  by_cases hF : f = 1125899906842624
  · have e2 : cuL (eds L) f = [] := by unfold cuL; rw [e1, if_pos rfl, if_pos hF]
    rw [e2]
    subst hF
    clear ha hb e0 e1 e2
    go_enter Try.func17, Try.ntmps17
    go_wp2_with (first | (go_at_call 45; (with_reducible refine seq_gw (h1.out _ (Ext.refl _)) ?_); intro g) | (go_at_call 35; (with_reducible refine seq_gw' (h2.out _ g.grown) ?_); intro g2))
    go_returns
    exact ⟨_, rfl, World.ownsRow_nil _ _ _ _, g2.grown⟩
  have e2 : cuL (eds L) f = cutP (eds L) f := by unfold cuL; rw [e1, if_pos rfl, if_neg hF]
  rw [e2]
  have hLl : L.length ≤ 4096 := by have := mayE_len ha; simpa [eds] using this
  have hbF : (f == 1125899906842624) = false := by simpa using hF
  have hAt := hide (fun e (he : e ∈ eds L) => mayE_at ha he)
  have hfk := hide (ckey_of (t := f) (by omega))
  have hmk : ∀ w, (Instr.makeMap 68 none).run Try.prog w = .ok (.map (some w.heap.size)) (w.alloc (.map #[] 0)) := fun _ => by kernel_rfl
  clear ha hb e0 e1 e2
  go_enter Try.func17, Try.ntmps17
  go_wp2_with (first | (go_at_call 45; (with_reducible refine seq_gw (h1.out _ (Ext.refl _)) ?_); intro g) | (go_at_call 35; (with_reducible refine seq_gw' (h2.out _ g.grown) ?_); intro g2) | (refine wpl_minsert rfl (.tmp 23) (.tmp 24) (.tmp 25) rfl (f := ckent) f rfl rfl rfl cKey Try.underlying68 (by unfold maxLen; omega) (Mv.made ckent g2.val Try.prog 3) hfk.out ?_; intro w5 hM5 hg5))
  generalize hmb : g2.val.heap.size = mb at *
  have hmw : w.heap.size ≤ mb := by rw [← hmb]; exact g2.grown.size
  have hX5 := hide (show Ext w w5 from ext_grown (g2.grown.alloc _) hg5 (fun z hz => by obtain rfl := Option.some.inj hz; exact hmw))
  have hM6 := hide hM5
  have hT5 := hide (show ∀ x, x ∈ putM ckent [] f ↔ x ∈ cutP ((eds L).take 0) f by intro x; rw [ck_put_mem, List.take_zero, cutP_nil]; simp)
  have hp5 : (putM ckent [] f).length ≤ 0 + 1 := put_len [] f
  clear hM5 hg5 h1 h2
  replace hmb := hide hmb
  go_loopg [29] L.length (fun gh i wr => ∃ (k n : Nat) (T : List Int), i = .int .i64 k ∧ k + gh = L.length ∧ Hid (Mv wr Try.prog 3 ckent mb n T) ∧ Hid (∀ x, x ∈ T ↔ x ∈ cutP ((eds L).take k) f) ∧ (n ≤ k + 1 ∧ T.length ≤ k + 1) ∧ Hid (Ext w wr))
  case atStart => exact ⟨0, 1, _, by go_num, by omega, hM6, hT5, ⟨by omega, hp5⟩, hX5⟩
  case round =>
    clear hM6 hT5 hp5 hX5
    obtain ⟨k, n, T, rfl, hk, hM, hmem, ⟨hn, hTl⟩, hX⟩ := hrel
    by_cases hlt : k < L.length
    · obtain ⟨⟨u, q, a, d⟩, hd⟩ : ∃ p, L[k]? = some p := ⟨_, List.getElem?_eq_getElem hlt⟩
      obtain ⟨A', cap', e', -, -, hat⟩ := ew_form (hC'.out.ext hX.out)
      simp only [Value.slice.injEq] at e'
      obtain ⟨rfl, -, rfl⟩ := e'
      obtain ⟨b, o, rfl, -, hbl, c0, c1, c2⟩ := hat k _ hd
      obtain ⟨RA, rcap, hru⟩ := rw_val (hC'.out.2 _ (List.mem_of_getElem? hd))
      simp only at hru c0 c1 c2
      rw [hru] at c0
      have hde : (eds L)[k]? = some (q, a, d) := by rw [List.getElem?_map, hd]; rfl
      have hnx := hide (cutP_next hde f)
      have hain := hAt.out _ (List.mem_of_getElem? hde)
      simp only at hain
      haveI : In b wr := ⟨hbl⟩
      have hdo : Ob (wr.alloc (.cells #[.slice RA q.length rcap, .int .i64 a, .int .i64 d] 66)) wr.heap.size 66 [.slice RA q.length rcap, .int .i64 a, .int .i64 d] := Ob.new wr _ [_, _, _]
      have hXa := hide (hX.out.alloc (.cells #[.slice RA q.length rcap, .int .i64 a, .int .i64 d] 66))
      have hMa := hide (hM.out.alloc (.cells #[.slice RA q.length rcap, .int .i64 a, .int .i64 d] 66))
      have hml := hM.out.lt
      clear hat hd hde hru hX hM hdo
      by_cases hfa : f < a
      · have hka := hide (ckey_of (t := a) (by omega))
        rw [if_pos hfa] at hnx
        go_wp2_with (at_mapUpdate; refine wpl_mstore rfl (.tmp 37) (.tmp 39) (.tmp 40) rfl (f := ckent) a rfl rfl rfl cKey Try.underlying68 (by unfold maxLen; omega) hMa.out hka.out ?_; intro w7 hM7 hg7)
        have hX7 := hide (ext_grown hXa.out hg7 (fun z hz => by obtain rfl := Option.some.inj hz; exact hmw))
        go_roundg (L.length - (k + 1))
        case measure => omega
        case rel =>
          refine ⟨k + 1, n + 1, putM ckent T a, by go_num, by omega, hM7, (fun x => ?_), ⟨by omega, Nat.le_trans (put_len T a) (by omega)⟩, hX7⟩
          rw [ck_put_mem, hnx.out, ins_mem, hmem.out x]
      · rw [if_neg hfa] at hnx
        go_wp2_with fail
        go_roundg (L.length - (k + 1))
        case measure => omega
        case rel => exact ⟨k + 1, n, T, by go_num, by omega, hMa, (fun x => by rw [hnx.out]; exact hmem.out x), ⟨by omega, by omega⟩, hXa⟩
    · have hkL : k = L.length := by omega
      have hst := hide (snSorted_c T mb n (by omega) wr hM.out)
      have hnd := hide (ck_nodup hM.out)
      have hfin := hide (show srt T = cutP (eds L) f from cut_of (srt_lt hnd.out) (fun x => by rw [srt_mem, hmem.out x, List.take_of_length_le (by simp [eds]; omega)]))
      have hzr := hX.out.size
      clear hM hmem
      go_wp2_with (go_at_call 46; refine hst.out.mono ?_; rintro ee w8 ⟨v8, rfl, ho8, hX8⟩; have ho9 := hide ho8; have hX9 := hide (hX.out.trans hX8); obtain ⟨A8, c8, q8⟩ := own_form ho8; subst q8; clear ho8 hX8)
      go_returns
      have h9 := own_base ho9.out hzr
      refine ⟨_, rfl, ?_, hX9.out⟩
      have h10 : OwnZ w8 w.heap.size (.slice A8 (srt T).length c8) (srt T) := h9
      rw [hfin.out] at h10 ⊢
      exact h10
end Go.Proofs.Ytjdbjnpomndfjaa
set_option linter.unusedVariables false
set_option linter.unusedSimpArgs false
namespace Go.Proofs.Ytjdbjnpomndfjaa
open Go.RowKit
theorem Stab.mono {B B' : Nat} {p : World → Prop} (h : Stab B p) (hB : B ≤ B') : Stab B' p := ⟨h.ext, fun A l o o' x hl => h.put A l o o' x (Nat.le_trans hB hl)⟩
theorem keepsF_mono {B B' : Nat} {W W' : World} (h : KeepsFrom B W W') (hB : B ≤ B') : KeepsFrom B' W W' := ⟨h.size, fun k o hk => h.same k o (Nat.le_trans hB hk)⟩
theorem keepsF_trans {B : Nat} {W W' w : World} (h : KeepsFrom B W W') (k : KeepsFrom B W' w) : KeepsFrom B W w := ⟨Nat.le_trans h.size k.size, fun i o hi ho hc => k.same i o hi (h.same i o hi ho hc) hc⟩
theorem keepsF_put {B l : Nat} {A : World} (hl : l < B) (o : Obj) : KeepsFrom B A (A.putObj l o) := ⟨by simp, fun k p hk hp _ => (World.putObj_heap_other (by omega)).trans hp⟩
theorem ob_putF {A : World} {l : Nat} {o o' : Obj} (ho : A.heap[l]? = some o) (hc : o.isCells = false) {b : Nat} {T : TypeId} {vs : List Value} (h : Ob A b T vs) : Ob (A.putObj l o') b T vs := put_block ho hc h rfl
/-- A round's call of yield, where it stands in a round itself; told in one way. -/
theorem yield_in {P : Program} {ly l : Nat} {vs : Array Value} {W : World} {R : Ending → World → Prop} (h : YieldAt Fence.wide 0 P ly vs W R) : ∃ fn tmps assign body, (Instr.yield ly vs).run P W = .ok (.round ly fn tmps assign body) W ∧ RoundIn (Fence.wide.inRound l) 0 P ly fn tmps assign body W R := by
  obtain ⟨fn, tmps, assign, body, hy, hR⟩ := h
  exact ⟨fn, tmps, assign, body, hy, hR⟩
section
variable {β : Type} {P : Program} {g : Operand} {ps : Array Tmp} {assign body : Code} {Q : Exit → Act → World → Prop} {a : Act} {w w0 : World} {gf n₀ : Nat} {lb : Array Value} {H : β → Array Value → World → Prop} {xs : List β}
end

end Go.Proofs.Ytjdbjnpomndfjaa
