/-
  A helper of ours: no claim of its own. Layer 27 (snap): the snapshots and their rows, by the code.
-/
import Derived.Test.YtljkneajdndgjaaGreatHopV
import Derived.Test.YtljkneajdndgjaaGreatSnaE
import Derived.Test.YtljkneajdndgjaaGreatEdgO
import Derived.Test.YtljkneajdndgjaaGreatSnaD
set_option linter.unusedVariables false
set_option linter.unusedSimpArgs false
namespace Go.Proofs.YtljkneajdndgjaaGreat
open Go.RowKit
attribute [local go_sem] GW.cell GW.frozen In.eq_true In.le_true In.ne In.ne' In.ne_add In.ne_add' In.lt_add Upto.le_true Upto.le_add Upto.lt_add
set_option maxHeartbeats 2000000 in
set_option maxRecDepth 20000 in
theorem hsorted_c (mb n : Nat) (T : List Eh) (b : Nat) (w : World) (hM : Mv w Tryz.prog 3 kentH mb n T) (hb : Ob w b 83 [.map (some mb)]) (hT : T.length ≤ 1000000) : Calls Tryz.prog 57 #[.func (.func 111) #[] #[.pointer (some ⟨b, 0, none⟩)]] w fun e w' => ∃ v, e = .returned v ∧ OwnZ w' w.heap.size v (srt (T.map Prod.fst)) ∧ Ext w w' := by
  have h1 := hide (hcollectKeys_c mb n T b w hM hb hT)
  have hs := hide (fun (D : List Eh) (v : Value) (w' : World) (h : OwnZ w' w.heap.size v (D.map Prod.fst)) (hn : D.length ≤ 1000000) => isort_c w.heap.size (D.map Prod.fst) v w' h (by rw [List.length_map]; omega))
  have hT' := hide hT
  clear hM hb hT
  go_enter Tryz.func57, Tryz.ntmps57
  go_wp2_with (first | (go_at_call 109; refine h1.out.mono ?_; rintro ee w1 ⟨v1, D, rfl, hD, ho, hX⟩; have hDl := hide hD.length_eq; have ho9 := hide ho; (unfold OwnKy OwnZ at ho; rw [List.length_map] at ho); obtain ⟨A1, c1, rfl⟩ := own_form ho; replace ho := hide ho; replace hX := hide hX; replace hD := hide hD) | (go_at_call 110; refine (hs.out D _ _ (by have h5 := ho9.out; unfold OwnKy at h5; exact h5) (by rw [hDl.out]; exact hT'.out)).mono ?_; rintro ee w2 ⟨rfl, ho2, hF2⟩; replace ho2 := hide ho2; replace hF2 := hide hF2))
  go_returns
  have e1 : srt (D.map Prod.fst) = srt (T.map Prod.fst) := List.Perm.eq_of_pairwise (fun a b _ _ h1 h2 => by omega) (srt_asc _) (srt_asc _) ((srt_perm _).trans ((hD.out.map _).trans (srt_perm _).symm))
  rw [← e1]
  exact ⟨_, rfl, ho2.out, ext_fr hX.out hF2.out fun b hb => (ob_ge ho.out b hb).1⟩
set_option maxHeartbeats 4000000 in
set_option maxRecDepth 100000 in
theorem hwith_c (C : List Vc) (B : Nat) (v : Value) (w : World) (h : OwnC w B v C) (hl : C.length ≤ 4096) (hr : ∀ c ∈ C, c.2.1.length ≤ 8) : Calls Tryz.prog 60 #[v] w fun e w' => ∃ C', e = .returned v ∧ cps C' = cps C ∧ OwnC w' B v C' ∧ Fr (ob v) w w' := by
  obtain ⟨A, cap, rfl⟩ := h.form
  have h' := hide h
  have hr' := hide hr
  clear h hr
  go_enter Tryz.func60, Tryz.ntmps60
  go_wp2_with fail
  go_loopg [7] C.length (fun gh i wr => ∃ (k : Nat) (C' : List Vc), i = .int .i64 k ∧ k + gh = C.length ∧ Hid (OwnC wr B (.slice A C.length cap) C') ∧ Hid (cps C' = cps C) ∧ Hid (Fr (ob (.slice A C.length cap)) w wr))
  case atStart => exact ⟨0, C, by go_num, by omega, h', rfl, Fr.refl _ _⟩
  case round =>
    obtain ⟨k, C', rfl, hk, hO, hcp, hFr⟩ := hrel
    by_cases hlt : k < C.length
    · have hl' := cps_len hcp.out
      obtain ⟨⟨u, q, n⟩, hc⟩ : ∃ c, C'[k]? = some c := ⟨_, List.getElem?_eq_getElem (by rw [hl']; exact hlt)⟩
      have hOo := hO.out.1
      rw [hl'] at hOo
      obtain ⟨g, mc, eg, hgB, hgl⟩ := own_block2 hOo (by omega)
      simp only [Value.slice.injEq] at eg
      obtain ⟨rfl, -, rfl⟩ := eg
      obtain ⟨vs, hgo, hvs⟩ := own_ob hOo
      have hcu0 : vs[k * 2]? = some u := by rw [hvs _ (by omega)]; have := cc_get C' k _ hc 0 u rfl; rwa [Nat.add_zero] at this
      have hcn1 : vs[k * 2 + 1]? = some (.int .i64 n) := by rw [hvs _ (by omega)]; exact cc_get C' k _ hc 1 _ rfl
      have hru := hO.out.2 _ (List.mem_of_getElem? hc)
      simp only at hru
      obtain ⟨RA, rcap, rfl⟩ := own_form hru
      have hq8 : q.length ≤ 8 := by
        obtain ⟨d, hd, e⟩ := cps_row hcp.out hc
        have := hr'.out d hd
        rw [e] at this
        exact this
      have k0 := hgo.cell (k * 2) hcu0
      have k1 := hgo.cell (k * 2 + 1) hcn1
      haveI : In g wr := ⟨hgo.lt⟩
      have hXa := hide ((Ext.refl wr).alloc (.cells #[.slice RA q.length rcap, .int .i64 n] 56))
      have hrc := hide (rowCopy_c q (.slice RA q.length rcap) (wr.alloc (.cells #[.slice RA q.length rcap, .int .i64 n] 56)) (Sl.own (S := []) (own_ext hru hXa.out) (by simp)) (by omega))
      have hcu := hide hcu0
      replace hgo := hide hgo
      replace hc := hide hc
      have hgob : Hid (g ∈ ob (Value.slice (some ⟨g, 0, none⟩) C.length cap)) := Option.mem_toList.2 rfl
      clear hOo hvs hcu0 hcn1 hru hgB hgl hl'
      go_wp2_with (go_at_call 112; refine hrc.out.mono ?_; rintro ee w2 ⟨v9, rfl, ho9, hX2⟩; obtain ⟨A26, c26, q26⟩ := own_form ho9; subst q26; have kg := (hgo.out.ext hXa.out).ext hX2; have kgl := kg.lt; (haveI : In g w2 := ⟨kgl⟩); have hfz := kg.free (k * 2); have hqc := kg.cell (k * 2) hcu.out; replace kg := hide kg; replace ho9 := hide ho9; replace hX2 := hide hX2)
      have hset := ((hO.out.ext hXa.out).ext hX2.out).set hc.out (own_base ho9.out (Nat.zero_le _))
      have hps := cps_set hc.out (.slice A26 q.length c26)
      have hFs := ((Fr.of_ext (S := ob (Value.slice (some ⟨g, 0, none⟩) C.length cap)) (hXa.out.trans hX2.out)).setCell ⟨g, k * 2, none⟩ (.slice A26 q.length c26) (.inl hgob.out))
      go_roundg (C.length - (k + 1))
      case measure => omega
      case rel => exact ⟨k + 1, _, by go_num, by omega, hset, hps.trans hcp.out, hFr.out.trans hFs⟩
    · have hkP : k = C.length := by omega
      go_wp2_with fail
      go_returns
      exact ⟨C', rfl, hcp.out, hO.out, hFr.out⟩
end Go.Proofs.YtljkneajdndgjaaGreat
set_option linter.unusedVariables false
set_option linter.unusedSimpArgs false
namespace Go.Proofs.YtljkneajdndgjaaGreat
open Go.RowKit
attribute [local go_sem] GW.cell GW.frozen In.eq_true In.le_true In.ne In.ne' In.ne_add In.ne_add' In.lt_add Upto.le_true Upto.le_add Upto.lt_add
theorem put_len (T : List Int) (t : Int) : (putM ckent T t).length ≤ T.length + 1 := by
  unfold putM delM
  rw [List.length_cons]
  have := List.length_filter_le (fun q => !(ckent q).1.sameKey (ckent t).1) T
  omega
theorem mayE_at {l : List Ed} (h : mayE l = true) {e : Ed} (he : e ∈ l) : -1 ≤ e.2.1 ∧ e.2.1 < 1125899906842624 := by
  have := (okJ_iff.1 ((mayE_doc.1 h).2.1 e he).2)
  exact ⟨this.1, this.2.1⟩
set_option maxHeartbeats 8000000 in
set_option maxRecDepth 100000 in
theorem snCuts_c (L : List Ve) (f : Int) (v : Value) (w : World) (hC : Ew w [] v L) : Calls Tryz.prog 71 #[v, .int .i64 f] w fun e w' => ∃ v', e = .returned (.tuple #[v', .int .i64 (cuE (eds L) f)]) ∧ OwnZ w' w.heap.size v' (cuL (eds L) f) ∧ Ext w w' := by
  have h1 := hide (fun w' (hX : Ext w w') => edgeMay_c L v w' (hC.ext hX))
  have h2 := hide (fun w' (hX : Ext w w') => edgeTable_c L v w' (hC.ext hX))
  have hC' := hide hC
  obtain ⟨A, cap, rfl, hlc, hlm, -⟩ := ew_form hC
  unfold maxLen at hlm
  clear hC
  cases ha : mayE (eds L)
  · have e1 : cuE (eds L) f = 2 := by unfold cuE; rw [ha]; rfl
    have e2 : cuL (eds L) f = [] := by unfold cuL; rw [e1]; rfl
    rw [e1, e2]
    rw [ha] at h1
    clear ha e1 e2
    go_enter Tryz.func71, Tryz.ntmps71
    go_wp2_with (go_at_call 45; (with_reducible refine seq_gw (h1.out _ (Ext.refl _)) ?_); intro g)
    go_returns
    exact ⟨_, rfl, World.ownsRow_nil _ _ _ _, g.grown⟩
  rw [ha] at h1
  cases hb : tabE (eds L)
  · have e1 : cuE (eds L) f = 20 := by unfold cuE; rw [ha, hb]; rfl
    have e2 : cuL (eds L) f = [] := by unfold cuL; rw [e1]; rfl
    rw [e1, e2]
    rw [hb] at h2
    clear ha hb e1 e2
    go_enter Tryz.func71, Tryz.ntmps71
    go_wp2_with (first | (go_at_call 45; (with_reducible refine seq_gw (h1.out _ (Ext.refl _)) ?_); intro g) | (go_at_call 54; (with_reducible refine seq_gw' (h2.out _ g.grown) ?_); intro g2))
    go_returns
    exact ⟨_, rfl, World.ownsRow_nil _ _ _ _, g2.grown⟩
  rw [hb] at h2
  by_cases hlo : f < 0
  · have e0 : stick f = false := by unfold stick; simp; omega
    have e1 : cuE (eds L) f = 13 := by unfold cuE; rw [ha, hb, e0]; rfl
    have e2 : cuL (eds L) f = [] := by unfold cuL; rw [e1]; rfl
    rw [e1, e2]
    clear ha hb e0 e1 e2
    go_enter Tryz.func71, Tryz.ntmps71
    go_wp2_with (first | (go_at_call 45; (with_reducible refine seq_gw (h1.out _ (Ext.refl _)) ?_); intro g) | (go_at_call 54; (with_reducible refine seq_gw' (h2.out _ g.grown) ?_); intro g2))
    go_returns
    exact ⟨_, rfl, World.ownsRow_nil _ _ _ _, g2.grown⟩
  by_cases hhi : 1125899906842624 < f
  · have e0 : stick f = false := by unfold stick; simp; omega
    have e1 : cuE (eds L) f = 13 := by unfold cuE; rw [ha, hb, e0]; rfl
    have e2 : cuL (eds L) f = [] := by unfold cuL; rw [e1]; rfl
    rw [e1, e2]
    clear ha hb e0 e1 e2
    go_enter Tryz.func71, Tryz.ntmps71
    go_wp2_with (first | (go_at_call 45; (with_reducible refine seq_gw (h1.out _ (Ext.refl _)) ?_); intro g) | (go_at_call 54; (with_reducible refine seq_gw' (h2.out _ g.grown) ?_); intro g2))
    go_returns
    exact ⟨_, rfl, World.ownsRow_nil _ _ _ _, g2.grown⟩
  have e0 : stick f = true := stick_iff.2 ⟨by omega, by omega⟩
  have e1 : cuE (eds L) f = 0 := by unfold cuE; rw [ha, hb, e0]; rfl
  rw [e1]
  by_cases hF : f = 1125899906842624
  · have e2 : cuL (eds L) f = [] := by unfold cuL; rw [e1, if_pos rfl, if_pos hF]
    rw [e2]
    subst hF
    clear ha hb e0 e1 e2
    go_enter Tryz.func71, Tryz.ntmps71
    go_wp2_with (first | (go_at_call 45; (with_reducible refine seq_gw (h1.out _ (Ext.refl _)) ?_); intro g) | (go_at_call 54; (with_reducible refine seq_gw' (h2.out _ g.grown) ?_); intro g2))
    go_returns
    exact ⟨_, rfl, World.ownsRow_nil _ _ _ _, g2.grown⟩
  have e2 : cuL (eds L) f = cutP (eds L) f := by unfold cuL; rw [e1, if_pos rfl, if_neg hF]
  rw [e2]
  have hLl : L.length ≤ 4096 := by have := mayE_len ha; simpa [eds] using this
  have hbF : (f == 1125899906842624) = false := by simpa using hF
  have hAt := hide (fun e (he : e ∈ eds L) => mayE_at ha he)
  have hfk := hide (ckey_of (t := f) (by omega))
  have hmk : ∀ w, (Instr.makeMap 143 none).run Tryz.prog w = .ok (.map (some w.heap.size)) (w.alloc (.map #[] 0)) := fun _ => by kernel_rfl
  clear ha hb e0 e1 e2
  go_enter Tryz.func71, Tryz.ntmps71
  go_wp2_with (first | (go_at_call 45; (with_reducible refine seq_gw (h1.out _ (Ext.refl _)) ?_); intro g) | (go_at_call 54; (with_reducible refine seq_gw' (h2.out _ g.grown) ?_); intro g2) | (refine wpl_minsert rfl (.tmp 23) (.tmp 24) (.tmp 25) rfl (f := ckent) f rfl rfl rfl cKey Tryz.underlying143 (by unfold maxLen; omega) (Mv.made ckent g2.val Tryz.prog 3) hfk.out ?_; intro w5 hM5 hg5))
  generalize hmb : g2.val.heap.size = mb at *
  have hmw : w.heap.size ≤ mb := by rw [← hmb]; exact g2.grown.size
  have hX5 := hide (show Ext w w5 from ext_grown (g2.grown.alloc _) hg5 (fun z hz => by obtain rfl := Option.some.inj hz; exact hmw))
  have hM6 := hide hM5
  have hT5 := hide (show ∀ x, x ∈ putM ckent [] f ↔ x ∈ cutP ((eds L).take 0) f by intro x; rw [ck_put_mem, List.take_zero, cutP_nil]; simp)
  have hp5 : (putM ckent [] f).length ≤ 0 + 1 := put_len [] f
  clear hM5 hg5 h1 h2
  replace hmb := hide hmb
  go_loopg [29] L.length (fun gh i wr => ∃ (k n : Nat) (T : List Int), i = .int .i64 k ∧ k + gh = L.length ∧ Hid (Mv wr Tryz.prog 3 ckent mb n T) ∧ Hid (∀ x, x ∈ T ↔ x ∈ cutP ((eds L).take k) f) ∧ (n ≤ k + 1 ∧ T.length ≤ k + 1) ∧ Hid (Ext w wr))
  case atStart => exact ⟨0, 1, _, by go_num, by omega, hM6, hT5, ⟨by omega, hp5⟩, hX5⟩
  case round =>
    clear hM6 hT5 hp5 hX5
    obtain ⟨k, n, T, rfl, hk, hM, hmem, ⟨hn, hTl⟩, hX⟩ := hrel
    by_cases hlt : k < L.length
    · obtain ⟨⟨u, q, a, d⟩, hd⟩ : ∃ p, L[k]? = some p := ⟨_, List.getElem?_eq_getElem hlt⟩
      obtain ⟨A', cap', e', -, -, hat⟩ := ew_form (hC'.out.ext hX.out)
      simp only [Value.slice.injEq] at e'
      obtain ⟨rfl, -, rfl⟩ := e'
      obtain ⟨b, o, rfl, -, hbl, c0, c1, c2⟩ := hat k _ hd
      obtain ⟨RA, rcap, hru⟩ := rw_val (hC'.out.2 _ (List.mem_of_getElem? hd))
      simp only at hru c0 c1 c2
      rw [hru] at c0
      have hde : (eds L)[k]? = some (q, a, d) := by rw [List.getElem?_map, hd]; rfl
      have hnx := hide (cutP_next hde f)
      have hain := hAt.out _ (List.mem_of_getElem? hde)
      simp only at hain
      haveI : In b wr := ⟨hbl⟩
      have hdo : Ob (wr.alloc (.cells #[.slice RA q.length rcap, .int .i64 a, .int .i64 d] 58)) wr.heap.size 58 [.slice RA q.length rcap, .int .i64 a, .int .i64 d] := Ob.new wr _ [_, _, _]
      have hXa := hide (hX.out.alloc (.cells #[.slice RA q.length rcap, .int .i64 a, .int .i64 d] 58))
      have hMa := hide (hM.out.alloc (.cells #[.slice RA q.length rcap, .int .i64 a, .int .i64 d] 58))
      have hml := hM.out.lt
      clear hat hd hde hru hX hM hdo
      by_cases hfa : f < a
      · have hka := hide (ckey_of (t := a) (by omega))
        rw [if_pos hfa] at hnx
        go_wp2_with (at_mapUpdate; refine wpl_mstore rfl (.tmp 37) (.tmp 39) (.tmp 40) rfl (f := ckent) a rfl rfl rfl cKey Tryz.underlying143 (by unfold maxLen; omega) hMa.out hka.out ?_; intro w7 hM7 hg7)
        have hX7 := hide (ext_grown hXa.out hg7 (fun z hz => by obtain rfl := Option.some.inj hz; exact hmw))
        go_roundg (L.length - (k + 1))
        case measure => omega
        case rel =>
          refine ⟨k + 1, n + 1, putM ckent T a, by go_num, by omega, hM7, (fun x => ?_), ⟨by omega, Nat.le_trans (put_len T a) (by omega)⟩, hX7⟩
          rw [ck_put_mem, hnx.out, ins_mem, hmem.out x]
      · rw [if_neg hfa] at hnx
        go_wp2_with fail
        go_roundg (L.length - (k + 1))
        case measure => omega
        case rel => exact ⟨k + 1, n, T, by go_num, by omega, hMa, (fun x => by rw [hnx.out]; exact hmem.out x), ⟨by omega, by omega⟩, hXa⟩
    · have hkL : k = L.length := by omega
      have hst := hide (snSorted_c T mb n (by omega) wr hM.out)
      have hnd := hide (ck_nodup hM.out)
      have hfin := hide (show srt T = cutP (eds L) f from cut_of (srt_lt hnd.out) (fun x => by rw [srt_mem, hmem.out x, List.take_of_length_le (by simp [eds]; omega)]))
      have hzr := hX.out.size
      clear hM hmem
      go_wp2_with (go_at_call 117; refine hst.out.mono ?_; rintro ee w8 ⟨v8, rfl, ho8, hX8⟩; have ho9 := hide ho8; have hX9 := hide (hX.out.trans hX8); obtain ⟨A8, c8, q8⟩ := own_form ho8; subst q8; clear ho8 hX8)
      go_returns
      have h9 := own_base ho9.out hzr
      refine ⟨_, rfl, ?_, hX9.out⟩
      have h10 : OwnZ w8 w.heap.size (.slice A8 (srt T).length c8) (srt T) := h9
      rw [hfin.out] at h10 ⊢
      exact h10
end Go.Proofs.YtljkneajdndgjaaGreat
set_option linter.unusedVariables false
set_option linter.unusedSimpArgs false
namespace Go.Proofs.YtljkneajdndgjaaGreat
open Go.RowKit
attribute [local go_sem] GW.cell GW.frozen In.eq_true In.le_true In.ne In.ne' In.ne_add In.ne_add' In.lt_add Upto.le_true Upto.le_add Upto.lt_add
theorem tPa : ElemT Tryz.prog 34 52 (.agg #[.int .i64 0, .int .i64 0, .slice none 0 0]) 3 40 := ElemT.mk' Tryz.underlying34 (by kernel_rfl) rfl (by omega)
/-- One more part. -/
theorem OwnP.app {w w' : World} {B : Nat} {v v' : Value} {P : List Vp} {p : Vp} (h : OwnP w B v P) (hF : Fr (ob v) w w') (ho : w'.ownsRow B 52 3 v' (P.length + 1) (pt P ++ pt1 p)) (hp : OwnC w B p.1 p.2.2) : OwnP w' B v' (P ++ [p]) := by
  have hk : ∀ b ∈ ob v, ∀ cs c, w.heap[b]? ≠ some (.cells cs 64 c) := fun b hb => by
    obtain ⟨cs, c, hc⟩ := own_kind h.1 hb
    exact no_kind hc (by decide)
  refine ⟨by rw [List.length_append, pt_append]; simpa [pt] using ho, fun q hq => ?_⟩
  rcases List.mem_append.1 hq with hq | hq
  · exact (h.2 q hq).away hF fun b hb => ⟨own_far h.1 (h.2 q hq).1 (by decide) b hb, hk b hb⟩
  · obtain rfl := List.mem_singleton.1 hq
    exact hp.away hF fun b hb => ⟨own_far h.1 hp.1 (by decide) b hb, hk b hb⟩
theorem Dis.app {w : World} {B : Nat} {v : Value} {P : List Vp} {p : Vp} (h : Dis P) (ho : OwnP w B v P) (hp : ∀ b ∈ ob p.1, w.heap.size ≤ b) : Dis (P ++ [p]) := by
  unfold Dis
  rw [List.pairwise_append]
  refine ⟨h, by simp, fun a ha c hc b hb hb2 => ?_⟩
  obtain rfl := List.mem_singleton.1 hc
  have h1 := (ob_ge (ho.2 a ha).1 b hb).2
  have h2 := hp b hb2
  omega
/-- Each part has few rows, and short ones. -/
def Sml (P : List Vp) : Prop := ∀ p ∈ P, p.2.2.length ≤ 4096 ∧ ∀ c ∈ p.2.2, c.2.1.length ≤ 8
theorem sml_of {G : List Gp} {t : Int} {C : List Vc} (h : cps C = alG G t) (hG : G.length ≤ 4096) (h8 : ∀ g ∈ G, g.1.length ≤ 8) : C.length ≤ 4096 ∧ ∀ c ∈ C, c.2.1.length ≤ 8 := by
  constructor
  · have := congrArg List.length h
    rw [List.length_map] at this
    have := alG_len G t
    omega
  · intro c hc
    have h1 : c.2 ∈ alG G t := by rw [← h]; exact List.mem_map.2 ⟨c, hc, rfl⟩
    unfold alG at h1
    obtain ⟨g, hg, e⟩ := List.mem_map.1 h1
    have := h8 g (List.mem_filter.1 hg).1
    rw [← e]
    exact this
set_option maxHeartbeats 8000000 in
set_option maxRecDepth 100000 in
theorem snParts_c (L : List Ve) (f : Int) (v : Value) (w : World) (hC : Ew w [] v L) : Calls Tryz.prog 29 #[v, .int .i64 f] w fun e w' => ∃ v' P, e = .returned (.tuple #[v', .int .i64 (snE (eds L) f)]) ∧ pts P = snL (eds L) f ∧ OwnP w' w.heap.size v' P ∧ Ext w w' := by
  have hcu := hide (snCuts_c L f v w hC)
  have hC' := hide hC
  have hcl := cuL_len (eds L) f
  rw [show (eds L).length = L.length from List.length_map _] at hcl
  obtain ⟨A, cap, rfl, hlc, hlm, -⟩ := ew_form hC
  clear hC
  obtain ⟨E, hE⟩ : ∃ E, E = cuE (eds L) f := ⟨_, rfl⟩
  obtain ⟨c, hc⟩ : ∃ c, c = cuL (eds L) f := ⟨_, rfl⟩
  rw [← hc] at hcl
  rw [← hE, ← hc] at hcu
  by_cases hE0 : E = 0
  case neg =>
    have e1 : snE (eds L) f = E := by unfold snE; rw [← hE, if_neg hE0]
    have e2 : snL (eds L) f = [] := by unfold snL; rw [e1, if_neg hE0]
    rw [e1, e2]
    have hb : (E == 0) = false := by simpa using hE0
    have hb2 : (E != 0) = true := by simpa using hE0
    replace hE := hide hE
    replace hc := hide hc
    clear e1 e2
    go_enter Tryz.func29, Tryz.ntmps29
    go_wp2_with (go_at_call 71; refine hcu.out.mono ?_; rintro ee w1 ⟨v1, rfl, ho1, hX1⟩; have ho2 := hide ho1; have hX2 := hide hX1; clear ho1 hX1)
    go_returns
    exact ⟨_, [], rfl, rfl, OwnP.nil _ _, hX2.out⟩
  subst hE0
  obtain ⟨hm, -, -⟩ := cuE_zero.1 hE.symm
  have hLl : L.length ≤ 4096 := by have := mayE_len hm; simpa [eds] using this
  have hgl : (grp (eds L)).length ≤ 4096 := by have := grp_len2 (eds L); rw [show (eds L).length = L.length from List.length_map _] at this; omega
  have hG8 := hide (grp_r8 hm)
  have hro := hide (fun w' (hX : Ext w w') => rowsOf_c L hm (.slice A L.length cap) w' (hC'.out.ext hX))
  have eE : snE (eds L) f = if 1024 < (snT (eds L) f).length then 7 else 0 := by unfold snE; rw [← hE, if_pos rfl]
  have eT : snT (eds L) f = paG (grp (eds L)) (spC c) := by unfold snT; rw [← hc]
  obtain ⟨EE, hEE⟩ : ∃ EE, EE = snE (eds L) f := ⟨_, rfl⟩
  obtain ⟨RR, hRR⟩ : ∃ RR, RR = snL (eds L) f := ⟨_, rfl⟩
  rw [← hEE, ← hRR]
  unfold snL at hRR
  rw [← hEE, eT] at hRR
  rw [eE, eT] at hEE
  obtain ⟨G, hG⟩ : ∃ G, G = grp (eds L) := ⟨_, rfl⟩
  rw [← hG] at hgl hG8 hro hRR hEE
  replace hEE := hide hEE
  replace hRR := hide hRR
  have hG' := hide hG
  clear hE hc eE eT hG
  have hspl := spC_len c
  go_enter Tryz.func29, Tryz.ntmps29
  go_wp2_with (first | (go_at_call 71; refine hcu.out.mono ?_; rintro ee w1 ⟨v1, rfl, ho1, hX1⟩; have ho2 := hide ho1; have hX2 := hide hX1; obtain ⟨CA, ccap, q1⟩ := own_form ho1; subst q1; clear ho1 hX1) | (go_at_call 72; refine (hro.out _ hX2.out).mono ?_; rintro ee w3 ⟨b3, mv, M, rfl, hb3, hK3, hkg, hX3⟩; have hb4 := hide hb3; have hK4 := hide hK3; have hX4 := hide (hX2.out.trans hX3); have ho4 := hide (own_ext ho2.out hX3); have hkg4 := hide hkg; clear hb3 hK3 hX3 hkg))
  have hMl : M.length ≤ 4096 := by have := congrArg List.length hkg4.out; rw [List.length_map] at this; omega
  go_loopg [9, 26] c.length (fun gh u i wr => ∃ (k : Nat) (P : List Vp), i = .int .i64 k ∧ k + gh = c.length ∧ Hid (OwnP wr w3.heap.size u P) ∧ Hid (Dis P ∧ Sml P) ∧ Hid (pts P = paG G ((spC c).take k)) ∧ P.length ≤ 1024 ∧ Hid (Ext w3 wr))
  case atStart => exact ⟨0, [], by go_num, by omega, OwnP.nil _ _, ⟨List.Pairwise.nil, by intro p hp; cases hp⟩, rfl, by simp, Ext.refl _⟩
  case round =>
    obtain ⟨k, P, rfl, hk, hO, hDS, hpt, hPl, hX⟩ := hrel
    obtain ⟨PA, pcap, rfl⟩ := hO.out.form
    by_cases hlt : k < c.length
    · obtain ⟨t, ht⟩ : ∃ t, c[k]? = some t := ⟨_, List.getElem?_eq_getElem hlt⟩
      have hor := own_ext ho4.out hX.out
      obtain ⟨A', cp', e', -, -, hat⟩ := zw_form (own_zw hor)
      simp only [Value.slice.injEq] at e'
      obtain ⟨rfl, -, rfl⟩ := e'
      obtain ⟨b, o, rfl, -, hbl, c0⟩ := hat k t ht
      haveI : In b wr := ⟨hbl⟩
      have hnx := hide (paG_next (G := G) (spC_at c k t ht))
      have hra := hide (rowsAt_c M mv b3 _ t wr (hb4.out.ext hX.out) (hK4.out.ext hX.out) hMl)
      have hzr : w3.heap.size ≤ wr.heap.size := hX.out.size
      have hzw3 : w.heap.size ≤ w3.heap.size := hX4.out.size
      have hnn := hide (fun w' (hX' : Ext wr w') => snNext_c c k hlt (by omega) (.slice (some ⟨b, o, none⟩) c.length ccap) w' (own_zw (own_ext hor hX')))
      obtain ⟨nx, hnxe⟩ : ∃ nx, nx = (c[k + 1]?).getD 1125899906842624 := ⟨_, rfl⟩
      rw [← hnxe] at hnn hnx
      replace hnxe := hide hnxe
      clear hat ht hor
      by_cases hem : alG G t = []
      · rw [if_pos hem, List.append_nil] at hnx
        replace hem := hide hem
        go_wp2_with (go_at_call 118; refine hra.out.mono ?_; rintro ee w5 ⟨v5, C, rfl, hcC, hoC, hX5⟩; (obtain ⟨rfl⟩ : C = [] := by (rw [hkg4.out, hem.out] at hcC; simpa using hcC)); have hX6 := hide hX5; obtain ⟨VA, vcap, q5⟩ := hoC.form; subst q5; clear hcC hoC hX5)
        go_roundg (c.length - (k + 1))
        case measure => omega
        case rel => exact ⟨k + 1, P, by go_num, by omega, hO.out.ext hX6.out, hDS.out, (by show _ = _; rw [hnx.out]; exact hpt.out), hPl, hX.out.trans hX6.out⟩
      · rw [if_neg hem] at hnx
        have hPT : P.length = (paG G ((spC c).take k)).length := by rw [← hpt.out, List.length_map]
        by_cases hfull : P.length = 1024
        · have hb7 : ((P.length : Int) == 1024) = true := by simp; omega
          have hpre := paG_pre G (spC c) (k + 1)
          rw [hnx.out, List.length_append, ← hPT, List.length_singleton] at hpre
          have e7 : EE = 7 := by rw [hEE.out, if_pos (by omega)]
          have e8 : RR = [] := by rw [hRR.out, if_neg (by omega)]
          have e7' := hide e7
          have e8' := hide e8
          clear hPT hpre e7 e8
          replace hem := hide hem
          replace hfull := hide hfull
          go_wp2_with (go_at_call 118; refine hra.out.mono ?_; rintro ee w5 ⟨v5, C, rfl, hcC, hoC, hX5⟩; (have hC0 : (((C.length : Nat) : Int) == 0) = false := by (have h0 : C ≠ [] := fun e => hem.out (by rw [← hkg4.out, ← hcC, e]; rfl); have := List.length_pos_iff.2 h0; simp; omega)); have hX6 := hide hX5; obtain ⟨VA, vcap, q5⟩ := hoC.form; subst q5; clear hcC hoC hX5)
          go_returns
          rw [e7'.out, e8'.out]
          exact ⟨_, [], rfl, rfl, OwnP.nil _ _, (hX4.out.trans hX.out).trans hX6.out⟩
        · have hb7 : ((P.length : Int) == 1024) = false := by simp; omega
          clear hPT
          replace hem := hide hem
          go_wp2_with (first | (go_at_call 118; refine hra.out.mono ?_; rintro ee w5 ⟨v5, C, rfl, hcC, hoC, hX5⟩; (have hC0 : (((C.length : Nat) : Int) == 0) = false := by (have h0 : C ≠ [] := fun e => hem.out (by rw [← hkg4.out, ← hcC, e]; rfl); have := List.length_pos_iff.2 h0; simp; omega)); have hX6 := hide hX5; have hcC' := hide hcC; have hoC' := hide hoC; have hO5 := hide (hO.out.ext hX5); obtain ⟨VA, vcap, q5⟩ := hoC.form; subst q5; clear hcC hoC hX5) | (go_at_call 73; (with_reducible refine seq_gw (hnn.out _ hX6.out) ?_); intro g1; have hO6 := hide (hO5.out.ext g1.grown); have hoC6 := hide (hoC'.out.ext g1.grown)) | (at_builtin; refine wpl_app tPa rfl (.tmp 40) (.tmp 48) rfl rfl (own_ext hO6.out.1 ((Ext.refl g1.val).alloc _)) rfl (src_sl Tryz.underlying34 (sl_lit g1.val 52 3 [.int .i64 t, .int .i64 nx, .slice VA C.length vcap] rfl) (by intro u hu; simp at hu; rcases hu with rfl | rfl | rfl <;> rfl) (by omega)) (by unfold maxLen; omega) (by omega) (by simp only [World.size_alloc]; have := hX6.out.size; have := g1.grown.size; omega) ?_; intro v8 w8 ho8 hg8 hob8; have ho9 := hide ho8; have hg9 := hide hg8; obtain ⟨A8, c8, q8⟩ := own_form ho8; subst q8; clear ho8 hg8 hob8))
          have hF9 : Fr (ob (.slice PA P.length pcap)) g1.val w8 := ((Fr.refl _ _).alloc _).grown hg9.out (fun j hj => .inl (Option.mem_toList.2 hj))
          have hobP := ob_ge hO.out.1
          go_roundg (c.length - (k + 1))
          case measure => omega
          case rel =>
            have hzz := hX6.out.size
            refine ⟨k + 1, P ++ [(Value.slice VA C.length vcap, (t, nx), C)], by go_num, by omega, (show OwnP w8 w3.heap.size (.slice A8 (P.length + 1) c8) (P ++ [(Value.slice VA C.length vcap, (t, nx), C)]) from OwnP.app (p := (.slice VA C.length vcap, (t, nx), C)) hO6.out hF9 (by simpa [pt1] using ho9.out) (hoC6.out.base hzr)), ⟨Dis.app hDS.out.1 hO.out (fun b hb => (ob_ge hoC'.out.1 b hb).1), ?_⟩, ?_, by simp; omega, ext_fr (hX.out.trans (hX6.out.trans g1.grown)) hF9 (fun y hy => ?_)⟩
            · intro p hp
              rcases List.mem_append.1 hp with hp | hp
              · exact hDS.out.2 p hp
              · obtain rfl := List.mem_singleton.1 hp
                exact sml_of (hcC'.out.trans (by rw [hkg4.out])) hgl hG8.out
            · show _ = _
              rw [hnx.out, ← hpt.out, pts_append]
              simp [hcC'.out, hkg4.out]
            · exact (hobP y hy).1
    · have hkc : k = c.length := by omega
      have hfin := hide (show pts P = paG G (spC c) by rw [hpt.out, List.take_of_length_le (by omega)])
      have hPT : (paG G (spC c)).length = P.length := by rw [← hfin.out, List.length_map]
      have e7 : EE = 0 := by rw [hEE.out, if_neg (by omega)]
      have e8 : RR = paG G (spC c) := by rw [hRR.out, if_pos e7]
      have e7' := hide e7
      have e8' := hide e8
      clear hPT e7 e8
      have hw := hide (snOwn_c P w3.heap.size (.slice PA P.length pcap) wr hO.out hDS.out.1 (by omega) hDS.out.2)
      go_wp2_with (go_at_call 74; refine hw.out.mono ?_; rintro ee w9 ⟨P', rfl, hp9, ho9, hF9⟩; have hp10 := hide hp9; have ho10 := hide ho9; have hF10 := hide hF9; clear hp9 ho9 hF9)
      go_returns
      rw [e7'.out, e8'.out]
      have hz3 := hX4.out.size
      refine ⟨_, P', rfl, hp10.out.trans hfin.out, ho10.out.base hz3, ext_fr (hX4.out.trans hX.out) hF10.out fun b hb => ?_⟩
      obtain ⟨p, hp, hbp⟩ := List.mem_flatMap.1 hb
      have := (ob_ge (hO.out.2 p hp).1 b hbp).1
      omega
end Go.Proofs.YtljkneajdndgjaaGreat
