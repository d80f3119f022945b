/-
  A helper of ours: no claim of its own. Layer 10 (edge): a row's edges behind others, by the document.
-/
import Derived.Test.YtljkneajdndgjabGreatStepE
import Derived.Test.YtljkneajdndgjabGreatEvaP
import Derived.Test.YtljkneajdndgjabGreatReg4
set_option linter.unusedVariables false
set_option linter.unusedSimpArgs false
namespace Go.Proofs.YtljkneajdndgjabGreat
open Go.RowKit
theorem rw_box {W : World} {S : List Nat} {v : Value} {r : List Vl} {b : Nat} {T : TypeId} {A : Option Addr} {n cap : Nat} (h : Rw W S v r) (o : Ob W b T [.slice A n cap]) : Rw W (b :: S) v r := by
  obtain ⟨B, k, rfl, h1, h2, h3, h4⟩ := h
  refine ⟨B, k, rfl, h1, h2, h3, ?_⟩
  rcases h4 with h4 | ⟨c, p, e, hcS, hc⟩
  · exact .inl h4
  · rcases r with _ | ⟨x, r⟩
    · exact .inl rfl
    · refine .inr ⟨c, p, e, ?_, hc⟩
      intro hcb
      rcases List.mem_cons.1 hcb with hcb | hcb
      · subst hcb
        have q := hc 0 (.int .i64 x.1) rfl
        rw [cell_of_row W c (p + 0) _ T (0, 0) o] at q
        rcases p with _ | p
        · simp at q
        · simp at q
      · exact hcS hcb
theorem ew_box {W : World} {S : List Nat} {v : Value} {L : List Ve} {b : Nat} {T : TypeId} {A : Option Addr} {n cap : Nat} (h : Ew W S v L) (o : Ob W b T [.slice A n cap]) : Ew W (b :: S) v L := by
  refine ⟨?_, fun p hp => rw_box (h.2 p hp) o⟩
  obtain ⟨B, k, rfl, h1, h2, h3, h4⟩ := h.1
  refine ⟨B, k, rfl, h1, h2, h3, ?_⟩
  rcases h4 with h4 | ⟨c, p, e, hcS, hc⟩
  · exact .inl h4
  · rcases L with _ | ⟨x, L⟩
    · exact .inl rfl
    · refine .inr ⟨c, p, e, ?_, hc⟩
      intro hcb
      rcases List.mem_cons.1 hcb with hcb | hcb
      · subst hcb
        have q := hc 1 (.int .i64 x.2.2.1) rfl
        rw [cell_of_row W c (p + 1) _ T (0, 0) o] at q
        simp at q
      · exact hcS hcb
end Go.Proofs.YtljkneajdndgjabGreat
set_option linter.unusedVariables false
set_option linter.unusedSimpArgs false
namespace Go.Proofs.YtljkneajdndgjabGreat
open Go.RowKit
theorem run_app_lit {P : Program} {w : World} {t tx ty e : TypeId} {z : Value} {size bytes base m b : Nat} {x : Value} {news : List Value} (T : ElemT P t e z size bytes) (hs : Src P size tx x m news w)
    (h63 : m ≤ maxLen) (hbytes : m * bytes ≤ 140737488355328) (hb : base ≤ b) (hbw : base ≤ w.heap.size) (ho : Ob w b e []) :
    ∃ v' w', (Builtin.append_ #[t, tx] ty #[.slice (some ⟨b, 0, none⟩) 0 0, x]).run P w = .ok v' w' ∧ w'.ownsRow base e size v' m news ∧ Ext w w' := by
  obtain ⟨ht, ⟨i, hi, hz, hsize, hby⟩, hzs, hsz⟩ := T
  subst hsize
  subst hby
  have hsmall : m ≤ 9223372036854775807 := by simp only [maxLen] at h63; omega
  by_cases hm : m = 0
  · subst hm
    have hn : news = [] := List.eq_nil_of_length_eq_zero (by simpa using hs.newsLen)
    subst hn
    have hst := run_storeCells_at P b (0 * i.size) e [] 0 #[] w ho (by simp) hs.one
    simp only [Nat.add_zero, Nat.zero_mul] at hst
    have hh := setRow_heap w b #[] #[] e _ ho
    refine ⟨.slice (some ⟨b, 0, none⟩) 0 0, w.setRow b #[], ?_, ⟨by simp, .inr ⟨b, 0, #[], rfl, hb, hh, Nat.le_refl _, Nat.zero_le _, by simp, by simp⟩⟩, ⟨rfl, rfl, rfl, by simp, fun k hk => ?_⟩⟩
    · rcases hs.kind with ⟨e', hk⟩ | hk <;> simp [Builtin.append_, run_underlying ht, run_underlying hk, sizeOf, typeInfo, hi, hs.len, hs.cells, Addr.add_lit, hst]
    · by_cases hkb : k = b
      · subst hkb; rw [hh]; exact ho.symm
      · exact setRow_other w b k _ hkb
  · have hr := run_append_grow_src (P := P) w t tx ty e i z ht hi hz (some ⟨b, 0, none⟩) 0 0 [] (run_firstCells_some w.drew i.size 0 _ 0 0 [] (by simp) (fun j u hu => by simp at hu)) x m news hs (by omega) (by omega) (growslice_fits (by omega) (by rw [Nat.zero_add]; exact hbytes))
    simp only [Nat.zero_add, List.nil_append] at hr
    have hge := grownCap_ge w m 0 e
    have hcm : grownCap w m 0 e ≤ maxLen := grownCap_le_maxLen w m 0 e h63
    refine ⟨_, _, hr, ⟨hs.newsLen, .inr ⟨w.heap.size, _, _, rfl, hbw, heap_alloc_new w.drew _, hge, hcm, ?_, ?_⟩⟩, ⟨rfl, rfl, rfl, by simp, fun k hk => Below.heap_alloc w.drew _ k hk⟩⟩
    · simp only [Array.size_append, List.size_toArray, size_zeroCells, hzs, hs.newsLen, ← Nat.add_mul]
      congr 1
      omega
    · simp only [Array.toList_append]
      rw [← hs.newsLen]
      exact List.take_left
end Go.Proofs.YtljkneajdndgjabGreat
set_option linter.unusedVariables false
set_option linter.unusedSimpArgs false
namespace Go.Proofs.YtljkneajdndgjabGreat
open Go.RowKit
attribute [local go_sem] GW.cell GW.frozen In.eq_true In.le_true In.ne In.ne' In.ne_add In.ne_add' In.lt_add Upto.le_true Upto.le_add Upto.lt_add
theorem tValP : ElemT Tryz.prog 33 53 (.agg #[.int .i64 0, .int .i64 0, .string ⟨#[]⟩]) 3 32 := ElemT.mk' Tryz.underlying33 (by kernel_rfl) rfl (by omega)
theorem buildRow0 (w : World) : (Instr.buildSlice 33 0 #[]).run Tryz.prog w = .ok (.slice (some ⟨w.heap.size, 0, none⟩) 0 0) (w.alloc (.cells #[] 53)) := by simp [go_sem]
def litF (n0 : Nat) : Fact := .st (fun u w => ∃ b, u = .slice (some ⟨b, 0, none⟩) 0 0 ∧ (n0 ≤ b ∧ Ob w b 53 [])) (fun _ _ _ ⟨b, e, h1, h2⟩ k => ⟨b, e, h1, h2.ext k⟩)
end Go.Proofs.YtljkneajdndgjabGreat
set_option linter.unusedVariables false
set_option linter.unusedSimpArgs false
namespace Go.Proofs.YtljkneajdndgjabGreat
open Go.RowKit
attribute [local go_sem] GW.cell GW.frozen In.eq_true In.le_true In.ne In.ne' In.ne_add In.ne_add' In.lt_add Upto.le_true Upto.le_add Upto.lt_add
theorem fr_cell {K : List Nat} {w wr : World} {b o : Nat} (h : Fr K w wr) (hb : b < w.heap.size) (hn : b ∉ K) : wr.cell? ⟨b, o, none⟩ = w.cell? ⟨b, o, none⟩ := by simp only [World.cell?, h.block b hb hn]
set_option maxHeartbeats 8000000 in
set_option maxRecDepth 100000 in
theorem refPutG_c (K : List Nat) (base : Nat) (L : List Ve) (r : List Vl) (f : List Jp) (v u x : Value) (w : World) (hv : OwnEr w base v L) (hbw : base ≤ w.heap.size) (hob : ∀ q, v.ownBlock = some q → q ∈ K) (hr : Rw w K u r) (hr8 : r.length ≤ 1000000000) (hf : Jw w K x f) (hfl : L.length + f.length ≤ 1000000000) : Calls Tryz.prog 44 #[v, u, x] w fun e w' => ∃ v' M, e = .returned v' ∧ eds M = f.map (fun j => (r, j)) ∧ OwnEr w' base v' (L ++ M) ∧ Fr K w w' ∧ ∀ q, v'.ownBlock = some q → q ∈ K ∨ w.heap.size ≤ q := by
  obtain ⟨B, fcap, rfl, hl, hm, hat⟩ := jw_form hf
  unfold maxLen at hm
  replace hat := hide hat
  have hrw := hide hr
  obtain ⟨RA, rcap, rfl⟩ := rw_val hr
  clear hf hr
  have hob0 : Hid (∀ q, v.ownBlock = some q → q ∈ K ∨ w.heap.size ≤ q) := fun q hq => .inl (hob q hq)
  clear hob
  obtain ⟨VA, vcap, hve⟩ := own_form hv.1
  subst hve
  replace hv := hide hv
  go_enter Tryz.func44, Tryz.ntmps44
  go_wp2_with fail
  go_loopg [0, 7] f.length (fun gh vv i wr => ∃ (k : Nat) (acc Y : List Ve), i = .int .i64 k ∧ k + gh = f.length ∧ OwnEr wr base vv Y ∧ Y.length ≤ L.length + k ∧ Hid (Y = L ++ acc) ∧ Hid (eds acc = (f.take k).map fun j => (r, j)) ∧ Fr K w wr ∧ Hid (∀ q, vv.ownBlock = some q → q ∈ K ∨ w.heap.size ≤ q))
  case atStart => exact ⟨0, [], L, rfl, by omega, hv.out, Nat.le_refl _, (by show _ = _; simp), rfl, Fr.refl K w, hob0⟩
  case round =>
    obtain ⟨k, acc, Y, rfl, hk, ho, hak, hY, hacc, hX, hob⟩ := hrel
    have hzX := hX.size
    have hzw0 : w.heap.size ≤ wr.heap.size := hzX
    by_cases hlt : k < f.length
    · obtain ⟨⟨ja, jn⟩, hx⟩ : ∃ j, f[k]? = some j := ⟨_, List.getElem?_eq_getElem hlt⟩
      obtain ⟨b0, o0, rfl, hbn, hb', c0, c1⟩ := hat.out k _ hx
      have k0 := (fr_cell (o := o0 + k * 2) hX hb' hbn).trans c0
      have hbr : b0 < wr.heap.size := block_lt_of_cell k0
      have q1 := hide k0
      have q2 := hide ((fr_cell (o := o0 + k * 2 + 1) hX hb' hbn).trans c1)
      have hrx := hide (Sl.fr hrw.out hX (fun _ h => h))
      have hnx := hide (show eds acc ++ [(r, (ja, jn))] = (f.take (k + 1)).map fun j => (r, j) by rw [List.take_add_one, hx, hacc.out]; simp)
      have ho0 := hide ho
      obtain ⟨C, ccap, rfl⟩ := own_form ho.1
      replace ho := hide ho
      clear c0 c1 k0 hat hx hacc hrw hbn hv hob0
      go_wp2_with fail
      refine wp_region_list_tail 16 [(.is (.slice C Y.length ccap)), litF wr.heap.size, (.is (.slice RA r.length rcap)), rowF (List.range wr.heap.size) r, (.is (.slice (some ⟨b0, o0, none⟩) f.length fcap)), (.is (.int .i64 k)), (.is (.pointer (some ⟨b0, o0 + k * 2, none⟩))), (.is (.pointer (some ⟨b0, o0 + k * 2, none⟩))), (.is (.int .i64 ja)), (.is (.slice (some ⟨b0, o0, none⟩) f.length fcap)), (.is (.int .i64 k)), (.is (.pointer (some ⟨b0, o0 + k * 2, none⟩))), (.is (.pointer (some ⟨b0, o0 + k * 2 + 1, none⟩))), (.is (.int .i64 jn)), edgF (List.range wr.heap.size) r (ja, jn), oneE (List.range wr.heap.size) r (ja, jn)] (by kernel_rfl) (by kernel_rfl) (by kernel_rfl) (by kernel_rfl) (by kernel_rfl) (by kernel_rfl) (by kernel_rfl) ?_ ?_
      · refine ⟨?_, ?_, ?_, ?_, ?_, ?_, ?_, ?_, ?_, ?_, ?_, ?_, ?_, ?_, ?_, ?_, trivial⟩
        · intro b w' h hE
          have f0 : b.tmps.getD 0 undef = .slice C Y.length ccap := hE 0 (of_decide_eq_true (by kernel_rfl))
          exact good_move (wanted_none rfl) rfl f0
        · intro b w' h hE
          have hz0 := h.ext.size
          refine good_grow (w' := w'.alloc (.cells #[] 53)) (v := .slice (some ⟨w'.heap.size, 0, none⟩) 0 0) (wanted_none rfl) ?_ ⟨_, rfl, hz0, Ob.new w' 53 []⟩ ((Ext.refl _).alloc _)
          simp [execOp, Act.eval, buildRow0, Sem.run_bind, Sem.run_pure, Result.andThen_ok]
        · intro b w' h hE
          have f1 : b.tmps.getD 1 undef = .slice RA r.length rcap := hE 1 (of_decide_eq_true (by kernel_rfl))
          exact good_move (wanted_none rfl) rfl f1
        · intro b w' h hE
          have f15 : ∃ bb, (b.tmps.getD 15 undef) = .slice (some ⟨bb, 0, none⟩) 0 0 ∧ (wr.heap.size ≤ bb ∧ Ob w' bb 53 []) := h.dep 1 _ 15 (by kernel_rfl) rfl rfl
          have f16 : b.tmps.getD 16 undef = .slice RA r.length rcap := h.dep 2 _ 16 (by kernel_rfl) rfl rfl
          have g16 : b.tmps[16]?.getD undef = .slice RA r.length rcap := by rw [← Array.getD_eq_getD_getElem?]; exact f16
          obtain ⟨bb, e15, hbb, hob⟩ := f15
          have g15 : b.tmps[15]?.getD undef = .slice (some ⟨bb, 0, none⟩) 0 0 := by rw [← Array.getD_eq_getD_getElem?]; exact e15
          obtain ⟨v17, w17, hr17, ho17, hx17⟩ := run_app_lit (ty := 33) tValP (src_sl Tryz.underlying33 (Sl.ext hrx.out h.ext) (rc_one r) (by omega)) (by unfold maxLen; omega) (by omega) hbb h.ext.size hob
          refine good_grow (w' := w17) (v := v17) (wanted_none rfl) ?_ (Sl.own ho17 (fun k hk => List.mem_range.1 hk)) hx17
          simp [execOp, resolve, invoke, builtin, Act.eval, g15, g16, hr17, Sem.run_bind, Sem.run_pure, Result.andThen_ok]
        · intro b w' h hE
          have f2 : b.tmps.getD 2 undef = .slice (some ⟨b0, o0, none⟩) f.length fcap := hE 2 (of_decide_eq_true (by kernel_rfl))
          exact good_move (wanted_none rfl) rfl f2
        · intro b w' h hE
          have f7 : b.tmps.getD 7 undef = .int .i64 k := hE 7 (of_decide_eq_true (by kernel_rfl))
          exact good_move (wanted_none rfl) rfl f7
        · intro b w' h hE
          have f18 : b.tmps.getD 18 undef = .slice (some ⟨b0, o0, none⟩) f.length fcap := h.dep 4 _ 18 (by kernel_rfl) rfl rfl
          have f19 : b.tmps.getD 19 undef = .int .i64 k := h.dep 5 _ 19 (by kernel_rfl) rfl rfl
          exact good_index (wanted_none rfl) rfl f18 f19 (by simp [go_sem, hlt]) rfl
        · intro b w' h hE
          have f20 : b.tmps.getD 20 undef = .pointer (some ⟨b0, o0 + k * 2, none⟩) := h.dep 6 _ 20 (by kernel_rfl) rfl rfl
          exact good_field (wanted_none rfl) rfl f20 (by simp [go_sem]) rfl
        · intro b w' h hE
          have f21 : b.tmps.getD 21 undef = .pointer (some ⟨b0, o0 + k * 2, none⟩) := h.dep 7 _ 21 (by kernel_rfl) rfl rfl
          have c0 := cell_later h.ext q1.out
          exact good_load (wanted_none rfl) rfl f21 (by simp [go_sem, c0]) rfl
        · intro b w' h hE
          have f2 : b.tmps.getD 2 undef = .slice (some ⟨b0, o0, none⟩) f.length fcap := hE 2 (of_decide_eq_true (by kernel_rfl))
          exact good_move (wanted_none rfl) rfl f2
        · intro b w' h hE
          have f7 : b.tmps.getD 7 undef = .int .i64 k := hE 7 (of_decide_eq_true (by kernel_rfl))
          exact good_move (wanted_none rfl) rfl f7
        · intro b w' h hE
          have f23 : b.tmps.getD 23 undef = .slice (some ⟨b0, o0, none⟩) f.length fcap := h.dep 9 _ 23 (by kernel_rfl) rfl rfl
          have f24 : b.tmps.getD 24 undef = .int .i64 k := h.dep 10 _ 24 (by kernel_rfl) rfl rfl
          exact good_index (wanted_none rfl) rfl f23 f24 (by simp [go_sem, hlt]) rfl
        · intro b w' h hE
          have f25 : b.tmps.getD 25 undef = .pointer (some ⟨b0, o0 + k * 2, none⟩) := h.dep 11 _ 25 (by kernel_rfl) rfl rfl
          exact good_field (wanted_none rfl) rfl f25 (by simp [go_sem]) rfl
        · intro b w' h hE
          have f26 : b.tmps.getD 26 undef = .pointer (some ⟨b0, o0 + k * 2 + 1, none⟩) := h.dep 12 _ 26 (by kernel_rfl) rfl rfl
          have c0 := cell_later h.ext q2.out
          exact good_load (wanted_none rfl) rfl f26 (by simp [go_sem, c0]) rfl
        · intro b w' h hE
          have f17 : Rw w' (List.range wr.heap.size) (b.tmps.getD 17 undef) r := h.dep 3 _ 17 (by kernel_rfl) rfl rfl
          have f22 : b.tmps.getD 22 undef = .int .i64 ja := h.dep 8 _ 22 (by kernel_rfl) rfl rfl
          have g22 : b.tmps[22]?.getD undef = .int .i64 ja := by rw [← Array.getD_eq_getD_getElem?]; exact f22
          have f27 : b.tmps.getD 27 undef = .int .i64 jn := h.dep 13 _ 27 (by kernel_rfl) rfl rfl
          have g27 : b.tmps[27]?.getD undef = .int .i64 jn := by rw [← Array.getD_eq_getD_getElem?]; exact f27
          obtain ⟨A, cp, e17⟩ := rw_val f17
          have g17 : b.tmps[17]?.getD undef = .slice A r.length cp := by rw [← Array.getD_eq_getD_getElem?]; exact e17
          rw [e17] at f17
          exact good_run (wanted_none rfl) (v := em (.slice A r.length cp) (ja, jn)) (by simp [execOp, Act.eval, go_sem, g17, g22, g27, Sem.run_bind, Sem.run_pure, Result.andThen_ok]) ⟨A, cp, rfl, f17⟩
        · intro b w' h hE
          have f28 : ∃ A cp, (b.tmps.getD 28 undef) = em (.slice A r.length cp) (ja, jn) ∧ Rw w' (List.range wr.heap.size) (.slice A r.length cp) r := h.dep 14 _ 28 (by kernel_rfl) rfl rfl
          obtain ⟨A, cp, e28, hr28⟩ := f28
          have g28 : b.tmps[28]?.getD undef = em (.slice A r.length cp) (ja, jn) := by rw [← Array.getD_eq_getD_getElem?]; exact e28
          have := buildE1 A r.length cp (ja, jn) w'
          refine good_grow (w' := w'.alloc (.cells #[.slice A r.length cp, .int .i64 ja, .int .i64 jn] 37)) (v := .slice (some ⟨w'.heap.size, 0, none⟩) 1 1) (wanted_none rfl) ?_ ⟨_, oneE_new (.slice A r.length cp) r (ja, jn) w', Sl.ext hr28 ((Ext.refl _).alloc _)⟩ ((Ext.refl _).alloc _)
          simp [execOp, Act.eval, g28, this, Sem.run_bind, Sem.run_pure, Result.andThen_ok]
      · intro b w2 hX2 hd hz he' hf
        have e14 : b.tmps.getD 14 undef = .slice C Y.length ccap := hf 0 _ 14 (by omega) rfl rfl
        have f15 : ∃ bb, (b.tmps.getD 15 undef) = .slice (some ⟨bb, 0, none⟩) 0 0 ∧ (wr.heap.size ≤ bb ∧ Ob w2 bb 53 []) := hf 1 _ 15 (by omega) rfl rfl
        have e16 : b.tmps.getD 16 undef = .slice RA r.length rcap := hf 2 _ 16 (by omega) rfl rfl
        have f17 : Rw w2 (List.range wr.heap.size) (b.tmps.getD 17 undef) r := hf 3 _ 17 (by omega) rfl rfl
        have e18 : b.tmps.getD 18 undef = .slice (some ⟨b0, o0, none⟩) f.length fcap := hf 4 _ 18 (by omega) rfl rfl
        have e19 : b.tmps.getD 19 undef = .int .i64 k := hf 5 _ 19 (by omega) rfl rfl
        have e20 : b.tmps.getD 20 undef = .pointer (some ⟨b0, o0 + k * 2, none⟩) := hf 6 _ 20 (by omega) rfl rfl
        have e21 : b.tmps.getD 21 undef = .pointer (some ⟨b0, o0 + k * 2, none⟩) := hf 7 _ 21 (by omega) rfl rfl
        have e22 : b.tmps.getD 22 undef = .int .i64 ja := hf 8 _ 22 (by omega) rfl rfl
        have e23 : b.tmps.getD 23 undef = .slice (some ⟨b0, o0, none⟩) f.length fcap := hf 9 _ 23 (by omega) rfl rfl
        have e24 : b.tmps.getD 24 undef = .int .i64 k := hf 10 _ 24 (by omega) rfl rfl
        have e25 : b.tmps.getD 25 undef = .pointer (some ⟨b0, o0 + k * 2, none⟩) := hf 11 _ 25 (by omega) rfl rfl
        have e26 : b.tmps.getD 26 undef = .pointer (some ⟨b0, o0 + k * 2 + 1, none⟩) := hf 12 _ 26 (by omega) rfl rfl
        have e27 : b.tmps.getD 27 undef = .int .i64 jn := hf 13 _ 27 (by omega) rfl rfl
        have f28 : ∃ A cp, (b.tmps.getD 28 undef) = em (.slice A r.length cp) (ja, jn) ∧ Rw w2 (List.range wr.heap.size) (.slice A r.length cp) r := hf 14 _ 28 (by omega) rfl rfl
        have f29 : ∃ u, Sl w2 [] 3 (b.tmps.getD 29 undef) 1 (ec1 (u, r, (ja, jn))) ∧ Rw w2 (List.range wr.heap.size) u r := hf 15 _ 29 (by omega) rfl rfl
        have e := frame_puts hd hz he'
        obtain ⟨X, hXx⟩ : ∃ X : Nat → Value, ∀ d, b.tmps.getD d undef = X d := ⟨_, fun _ => rfl⟩
        rw [hXx] at e14 e16 e18 e19 e20 e21 e22 e23 e24 e25 e26 e27 f15 f17 f28 f29
        obtain ⟨b15, q15, -, -⟩ := f15
        obtain ⟨A17, c17, q17⟩ := rw_val f17
        obtain ⟨A28, c28, q28, -⟩ := f28
        obtain ⟨u29, f29, r29⟩ := f29
        obtain ⟨A29, c29, q29⟩ := sl_form f29
        rw [show dstsOf _ = [14, 15, 16, 17, 18, 19, 20, 21, 22, 23, 24, 25, 26, 27, 28, 29] from rfl] at e
        simp only [List.foldl_cons, List.foldl_nil, hXx, Act.put, List.setIfInBounds_toArray, List.set_cons_succ, List.set_cons_zero] at e
        rw [e14, e16, e18, e19, e20, e21, e22, e23, e24, e25, e26, e27, q15, q17, q28, q29] at e
        rw [q17] at f17
        replace f17 := hide f17
        rw [q29] at f29
        replace f29 := hide f29
        clear hf he' hz hd hXx e14 e16 e18 e19 e20 e21 e22 e23 e24 e25 e26 e27 q15 q17 q28 q29
        subst e
        have hzw := hX2.size
        simp only [List.drop_succ_cons, List.drop_zero]
        replace r29 := hide r29
        have hone := row_one r29.out
        go_wp2_with (at_builtin; (refine wpl_app tEdg rfl (.tmp 14) (.tmp 29) rfl rfl (own_ext ho.out.1 hX2) rfl (src_sl Tryz.underlying22 f29.out (ec1_one hone) (by omega)) (by unfold maxLen; omega) (by omega) (by omega) ?_; intro v8 w8 ho8 hg8 hob8; have hX8 := hide ((hX.then (S' := []) (Fr.of_ext hX2) (by simp)).grown hg8 hob.out)))
        go_roundg (f.length - (k + 1))
        case measure => omega
        case rel =>
          have ho9 : OwnEr w8 base v8 (Y ++ [(u29, r, (ja, jn))]) := (ho.out.ext hX2).app (own_appE (M := [(u29, r, (ja, jn))]) (by simpa [ec, ec1] using ho8)) hg8 hob8 (fun p hp => by
            obtain rfl := List.mem_singleton.1 hp
            refine ⟨_, r29.out, fun q hq => List.mem_range.2 ?_⟩
            rcases List.mem_append.1 hq with hq | hq
            · have := (ob_ge ho0.out.1 q hq).2; omega
            · have := List.mem_range.1 hq; omega)
          have hob9 : Hid (∀ q, v8.ownBlock = some q → q ∈ K ∨ w.heap.size ≤ q) := fun q hq => by
            rcases hob8 with h8 | h8
            · exact hob.out q (h8.symm.trans hq)
            · rw [h8] at hq; obtain rfl := Option.some.inj hq; right; omega
          exact ⟨k + 1, acc ++ [(u29, r, (ja, jn))], Y ++ [(u29, r, (ja, jn))], by go_num, by omega, ho9, by rw [List.length_append, List.length_singleton]; omega, (by show _ = _; rw [hY.out, List.append_assoc]), by show _ = _; rw [eds, List.map_append]; exact hnx.out, hX8.out, hob9⟩
    · have hk' : k = f.length := by omega
      have hge : (f.length : Int) ≤ k := by omega
      have hac := hacc.out
      rw [List.take_of_length_le (by omega)] at hac
      replace hac := hide hac
      replace hk' := hide hk'
      obtain ⟨C, ccap, rfl⟩ := own_form ho.1
      replace ho := hide ho
      clear hacc hv hob0
      go_wp2_with fail
      go_returns
      exact ⟨_, acc, rfl, hac.out, hY.out ▸ ho.out, hX, hob.out⟩
end Go.Proofs.YtljkneajdndgjabGreat
