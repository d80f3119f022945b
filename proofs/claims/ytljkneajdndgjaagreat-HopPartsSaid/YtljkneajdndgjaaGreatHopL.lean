/-
  A helper of ours: no claim of its own. Layer 28 (hop): the windows that have rows, by the code.
-/
import Derived.Test.YtljkneajdndgjaaGreatSnaF
import Derived.Test.YtljkneajdndgjaaGreatHopF
set_option linter.unusedVariables false
set_option linter.unusedSimpArgs false
namespace Go.Proofs.YtljkneajdndgjaaGreat
open Go.RowKit
attribute [local go_sem] GW.cell GW.frozen In.eq_true In.le_true In.ne In.ne' In.ne_add In.ne_add' In.lt_add Upto.le_true Upto.le_add Upto.lt_add
/-- What is told by the code. -/
def hpT (s hp f r : Int) (l : List Ed) : List Pt := (hkeys s hp f r (grp l)).map fun t => ((t, hend s t), hrows s hp f r (grp l) t)
def hpE (l : List Ed) (s hp f r : Int) : Int := if hlen s = true ∧ hlen hp = true ∧ mayE l = true then (if tabE l = true then (if htick f = true ∧ htick r = true then hcE s hp f r (grp l) else 13) else 20) else 2
def hpL (l : List Ed) (s hp f r : Int) : List Pt := if hpE l s hp f r = 0 then hpT s hp f r l else []
theorem goodO_call {P : Program} {ops : Array Oper} {Φ : Nat → Value → World → Prop} {Q : Exit → Act → World → Prop} {G : World → World → Prop} {k0 i : Nat} {o : Oper} {b : Act} {w : World} {f : FuncId} {xs : Array Operand} {ats : Array TypeId} (hi : i = k0) (hg : Region.wanted o (yielded ops b.tmps) = true) (ho : o.op = .call { callee := .value (.func f), args := xs, argTypes := ats })
    (he : ∀ args w, (callFunc f args).run P w = .ok (.enter f args) w) (hc : Calls P f (xs.map b.eval) w fun e w' => ∃ v, e = .returned v ∧ Φ i v w' ∧ G w w') : RGoodO P ops Φ G Q k0 i o b w := by
  refine .inr ⟨hi, hg, ?_⟩
  unfold Oper.wp
  have : (execOp b.eval o).run P w = .ok (.enter f (xs.map b.eval)) w := by
    simp [execOp, ho, resolve, Act.eval, Deferred.ofValue, invoke, he, go_sem]
  rw [this]
  exact hc.mono fun e w' ⟨v, he, h1, h2⟩ => by subst he; exact ⟨v, rfl, h1, h2⟩
theorem dis_of {T : List Eh} (hP : T.Pairwise fun p q => ∀ b ∈ ob p.2.1, b ∉ ob q.2.1) {p q : Eh} (hp : p ∈ T) (hq : q ∈ T) (hne : p.1 ≠ q.1) : ∀ b ∈ ob p.2.1, b ∉ ob q.2.1 := fun b hb hb2 => by
  obtain ⟨i, hi, rfl⟩ := List.mem_iff_getElem.1 hp
  obtain ⟨j, hj, rfl⟩ := List.mem_iff_getElem.1 hq
  rw [List.pairwise_iff_getElem] at hP
  rcases Nat.lt_trichotomy i j with h3 | h3 | h3
  · exact hP i j hi hj h3 b hb hb2
  · subst h3; exact hne rfl
  · exact hP j i hj hi h3 b hb2 hb
theorem mv_fr {W W' : World} {mb n : Nat} {T : List Eh} {e sz m base : Nat} {v : Value} {xs : List Value} (h : Mv W Tryz.prog 3 kentH mb n T) (ho : W.ownsRow base e sz v m xs) (hF : Fr (ob v) W W') : Mv W' Tryz.prog 3 kentH mb n T :=
  h.kept (row := v.ownBlock) (World.grownBy.mk hF.os hF.tape hF.output hF.size fun i hi hn => hF.block i hi (fun hm => hn (Option.mem_toList.1 hm).symm)) (fun e => by
    obtain ⟨ds, d, hd⟩ := own_kind ho (Option.mem_toList.2 e.symm)
    exact map_no_kind h.isMap _ _ _ hd)
theorem cps_rows {T : List Eh} {t : Int} {v : Value} {C : List Vc} (h : getH T t = some (t, v, C)) : cps C = rowsH T t := by unfold rowsH; rw [h]; rfl
theorem srt_eq {D E : List Int} (hD : D.Nodup) (hE : E.Pairwise (· < ·)) (h : ∀ x, x ∈ D ↔ x ∈ E) : srt D = E :=
  List.Perm.eq_of_pairwise (fun a b _ _ h1 h2 => by omega) (srt_asc D) (hE.imp fun {a b} h => by omega) ((srt_perm D).trans ((List.perm_ext_iff_of_nodup hD (asc_nodup hE)).2 h))
set_option maxHeartbeats 16000000 in
set_option maxRecDepth 100000 in
theorem hpParts_c (L : List Ve) (s hp f r : Int) (v : Value) (w : World) (hC : Ew w [] v L) : Calls Tryz.prog 25 #[v, .int .i64 s, .int .i64 hp, .int .i64 f, .int .i64 r] w fun e w' => ∃ v' P, e = .returned (.tuple #[v', .int .i64 (hpE (eds L) s hp f r)]) ∧ pts P = hpL (eds L) s hp f r ∧ OwnP w' w.heap.size v' P ∧ Ext w w' := by
  have h1 := hide (fun w => haveLengths_c s hp f r w)
  have h2 := hide (fun w' (hX : Ext w w') => edgeMay_c L v w' (hC.ext hX))
  have h3 := hide (fun w' (hX : Ext w w') => edgeTable_c L v w' (hC.ext hX))
  have h4 := hide (fun w => haveTicks_c s hp f r w)
  have hC' := hide hC
  obtain ⟨A, cap, rfl, hlc, hlm, -⟩ := ew_form hC
  unfold maxLen at hlm
  have hXW : Ext w (w.alloc (.cells #[.int .i64 s, .int .i64 hp, .int .i64 f, .int .i64 r] 82)) := (Ext.refl w).alloc _
  have pW : Ob (w.alloc (.cells #[.int .i64 s, .int .i64 hp, .int .i64 f, .int .i64 r] 82)) w.heap.size 82 [.int .i64 s, .int .i64 hp, .int .i64 f, .int .i64 r] := Ob.new w _ [_, _, _, _]
  replace hXW := hide hXW
  replace pW := hide pW
  clear hC
  cases hl : (hlen s && hlen hp)
  · have e1 : hpE (eds L) s hp f r = 2 := by unfold hpE; rw [if_neg (fun h => by rw [h.1, h.2.1] at hl; cases hl)]
    have e2 : hpL (eds L) s hp f r = [] := by unfold hpL; rw [e1]; rfl
    rw [e1, e2]
    rw [hl] at h1
    clear hl e1 e2
    go_enter Tryz.func25, Tryz.ntmps25
    go_wp2_with (go_at_call 53; refine (h1.out _).mono ?_; rintro ee w1 ⟨rfl, hY⟩; have hX1 := hide hY; have pW1 := hide (pW.out.ext hX1.out); (have c0 := pW1.out.cell 0 rfl); (have c1 := pW1.out.cell 1 rfl); (have c2 := pW1.out.cell 2 rfl); (have c3 := pW1.out.cell 3 rfl); (have lW := pW1.out.lt); (haveI : In w.heap.size w1 := ⟨lW⟩); clear hY)
    go_returns
    exact ⟨_, [], rfl, rfl, OwnP.nil _ _, hXW.out.trans hX1.out⟩
  rw [hl] at h1
  obtain ⟨hs, hh⟩ : hlen s = true ∧ hlen hp = true := by simpa using hl
  clear hl
  cases hm : mayE (eds L)
  · have e1 : hpE (eds L) s hp f r = 2 := by unfold hpE; rw [if_neg (fun h => by rw [hm] at h; cases h.2.2)]
    have e2 : hpL (eds L) s hp f r = [] := by unfold hpL; rw [e1]; rfl
    rw [e1, e2]
    rw [hm] at h2
    clear hm e1 e2 hs hh
    go_enter Tryz.func25, Tryz.ntmps25
    go_wp2_with (first | (go_at_call 53; refine (h1.out _).mono ?_; rintro ee w1 ⟨rfl, hY⟩; have hX1 := hide hY; have pW1 := hide (pW.out.ext hX1.out); (have c0 := pW1.out.cell 0 rfl); (have c1 := pW1.out.cell 1 rfl); (have c2 := pW1.out.cell 2 rfl); (have c3 := pW1.out.cell 3 rfl); (have lW := pW1.out.lt); (haveI : In w.heap.size w1 := ⟨lW⟩); clear hY) | (go_at_call 45; refine (h2.out _ (hXW.out.trans hX1.out)).mono ?_; rintro ee w2 ⟨rfl, hY⟩; have hX2 := hide (hX1.out.trans hY); have pW2 := hide (pW.out.ext hX2.out); (have c0 := pW2.out.cell 0 rfl); (have c1 := pW2.out.cell 1 rfl); (have c2 := pW2.out.cell 2 rfl); (have c3 := pW2.out.cell 3 rfl); (have lW := pW2.out.lt); (haveI : In w.heap.size w2 := ⟨lW⟩); clear hY))
    go_returns
    exact ⟨_, [], rfl, rfl, OwnP.nil _ _, hXW.out.trans hX2.out⟩
  rw [hm] at h2
  cases ht : tabE (eds L)
  · have e1 : hpE (eds L) s hp f r = 20 := by unfold hpE; rw [if_pos ⟨hs, hh, hm⟩, if_neg (by rw [ht]; decide)]
    have e2 : hpL (eds L) s hp f r = [] := by unfold hpL; rw [e1]; rfl
    rw [e1, e2]
    rw [ht] at h3
    clear hm ht e1 e2 hs hh
    go_enter Tryz.func25, Tryz.ntmps25
    go_wp2_with (first | (go_at_call 53; refine (h1.out _).mono ?_; rintro ee w1 ⟨rfl, hY⟩; have hX1 := hide hY; have pW1 := hide (pW.out.ext hX1.out); (have c0 := pW1.out.cell 0 rfl); (have c1 := pW1.out.cell 1 rfl); (have c2 := pW1.out.cell 2 rfl); (have c3 := pW1.out.cell 3 rfl); (have lW := pW1.out.lt); (haveI : In w.heap.size w1 := ⟨lW⟩); clear hY) | (go_at_call 45; refine (h2.out _ (hXW.out.trans hX1.out)).mono ?_; rintro ee w2 ⟨rfl, hY⟩; have hX2 := hide (hX1.out.trans hY); have pW2 := hide (pW.out.ext hX2.out); (have c0 := pW2.out.cell 0 rfl); (have c1 := pW2.out.cell 1 rfl); (have c2 := pW2.out.cell 2 rfl); (have c3 := pW2.out.cell 3 rfl); (have lW := pW2.out.lt); (haveI : In w.heap.size w2 := ⟨lW⟩); clear hY) | (go_at_call 54; refine (h3.out _ (hXW.out.trans hX2.out)).mono ?_; rintro ee w3 ⟨rfl, hY⟩; have hX3 := hide (hX2.out.trans hY); have pW3 := hide (pW.out.ext hX3.out); (have c0 := pW3.out.cell 0 rfl); (have c1 := pW3.out.cell 1 rfl); (have c2 := pW3.out.cell 2 rfl); (have c3 := pW3.out.cell 3 rfl); (have lW := pW3.out.lt); (haveI : In w.heap.size w3 := ⟨lW⟩); clear hY))
    go_returns
    exact ⟨_, [], rfl, rfl, OwnP.nil _ _, hXW.out.trans hX3.out⟩
  rw [ht] at h3
  cases hk : (htick f && htick r)
  · have e1 : hpE (eds L) s hp f r = 13 := by unfold hpE; rw [if_pos ⟨hs, hh, hm⟩, if_pos ht, if_neg (fun h => by rw [h.1, h.2] at hk; cases hk)]
    have e2 : hpL (eds L) s hp f r = [] := by unfold hpL; rw [e1]; rfl
    rw [e1, e2]
    rw [hk] at h4
    clear hm ht hk e1 e2 hs hh
    go_enter Tryz.func25, Tryz.ntmps25
    go_wp2_with (first | (go_at_call 53; refine (h1.out _).mono ?_; rintro ee w1 ⟨rfl, hY⟩; have hX1 := hide hY; have pW1 := hide (pW.out.ext hX1.out); (have c0 := pW1.out.cell 0 rfl); (have c1 := pW1.out.cell 1 rfl); (have c2 := pW1.out.cell 2 rfl); (have c3 := pW1.out.cell 3 rfl); (have lW := pW1.out.lt); (haveI : In w.heap.size w1 := ⟨lW⟩); clear hY) | (go_at_call 45; refine (h2.out _ (hXW.out.trans hX1.out)).mono ?_; rintro ee w2 ⟨rfl, hY⟩; have hX2 := hide (hX1.out.trans hY); have pW2 := hide (pW.out.ext hX2.out); (have c0 := pW2.out.cell 0 rfl); (have c1 := pW2.out.cell 1 rfl); (have c2 := pW2.out.cell 2 rfl); (have c3 := pW2.out.cell 3 rfl); (have lW := pW2.out.lt); (haveI : In w.heap.size w2 := ⟨lW⟩); clear hY) | (go_at_call 54; refine (h3.out _ (hXW.out.trans hX2.out)).mono ?_; rintro ee w3 ⟨rfl, hY⟩; have hX3 := hide (hX2.out.trans hY); have pW3 := hide (pW.out.ext hX3.out); (have c0 := pW3.out.cell 0 rfl); (have c1 := pW3.out.cell 1 rfl); (have c2 := pW3.out.cell 2 rfl); (have c3 := pW3.out.cell 3 rfl); (have lW := pW3.out.lt); (haveI : In w.heap.size w3 := ⟨lW⟩); clear hY) | (go_at_call 55; refine (h4.out _).mono ?_; rintro ee w4 ⟨rfl, hY⟩; have hX4 := hide (hX3.out.trans hY); have pW4 := hide (pW.out.ext hX4.out); (have c0 := pW4.out.cell 0 rfl); (have c1 := pW4.out.cell 1 rfl); (have c2 := pW4.out.cell 2 rfl); (have c3 := pW4.out.cell 3 rfl); (have lW := pW4.out.lt); (haveI : In w.heap.size w4 := ⟨lW⟩); clear hY))
    go_returns
    exact ⟨_, [], rfl, rfl, OwnP.nil _ _, hXW.out.trans hX4.out⟩
  rw [hk] at h4
  obtain ⟨hf, hr⟩ : htick f = true ∧ htick r = true := by simpa using hk
  clear hk
  have eE : hpE (eds L) s hp f r = hcE s hp f r (grp (eds L)) := by unfold hpE; rw [if_pos ⟨hs, hh, hm⟩, if_pos ht, if_pos ⟨hf, hr⟩]
  have hco := hide (fun w' (hX : Ext w w') => hcollect_c s hp f r hs hh hf hr L hm (.slice A L.length cap) w' (hC'.out.ext hX))
  by_cases hE : hcE s hp f r (grp (eds L)) = 0
  case neg =>
    have e7 : hcE s hp f r (grp (eds L)) = 7 := by unfold hcE at hE ⊢; split at hE <;> simp_all
    have e2 : hpL (eds L) s hp f r = [] := by unfold hpL; rw [eE, e7]; rfl
    rw [eE, e2, e7]
    rw [e7] at hco
    clear hm ht e2 hs hh hf hr eE hE e7
    go_enter Tryz.func25, Tryz.ntmps25
    go_wp2_with (first | (go_at_call 53; refine (h1.out _).mono ?_; rintro ee w1 ⟨rfl, hY⟩; have hX1 := hide hY; have pW1 := hide (pW.out.ext hX1.out); (have c0 := pW1.out.cell 0 rfl); (have c1 := pW1.out.cell 1 rfl); (have c2 := pW1.out.cell 2 rfl); (have c3 := pW1.out.cell 3 rfl); (have lW := pW1.out.lt); (haveI : In w.heap.size w1 := ⟨lW⟩); clear hY) | (go_at_call 45; refine (h2.out _ (hXW.out.trans hX1.out)).mono ?_; rintro ee w2 ⟨rfl, hY⟩; have hX2 := hide (hX1.out.trans hY); have pW2 := hide (pW.out.ext hX2.out); (have c0 := pW2.out.cell 0 rfl); (have c1 := pW2.out.cell 1 rfl); (have c2 := pW2.out.cell 2 rfl); (have c3 := pW2.out.cell 3 rfl); (have lW := pW2.out.lt); (haveI : In w.heap.size w2 := ⟨lW⟩); clear hY) | (go_at_call 54; refine (h3.out _ (hXW.out.trans hX2.out)).mono ?_; rintro ee w3 ⟨rfl, hY⟩; have hX3 := hide (hX2.out.trans hY); have pW3 := hide (pW.out.ext hX3.out); (have c0 := pW3.out.cell 0 rfl); (have c1 := pW3.out.cell 1 rfl); (have c2 := pW3.out.cell 2 rfl); (have c3 := pW3.out.cell 3 rfl); (have lW := pW3.out.lt); (haveI : In w.heap.size w3 := ⟨lW⟩); clear hY) | (go_at_call 55; refine (h4.out _).mono ?_; rintro ee w4 ⟨rfl, hY⟩; have hX4 := hide (hX3.out.trans hY); have pW4 := hide (pW.out.ext hX4.out); (have c0 := pW4.out.cell 0 rfl); (have c1 := pW4.out.cell 1 rfl); (have c2 := pW4.out.cell 2 rfl); (have c3 := pW4.out.cell 3 rfl); (have lW := pW4.out.lt); (haveI : In w.heap.size w4 := ⟨lW⟩); clear hY) | (go_at_call 56; refine (hco.out _ (hXW.out.trans hX4.out)).mono ?_; rintro ee w5 ⟨mv, rfl, hY, hor⟩; have hX5 := hide (hX4.out.trans hY); have pW5 := hide (pW.out.ext hX5.out); (have c0 := pW5.out.cell 0 rfl); (have c1 := pW5.out.cell 1 rfl); (have c2 := pW5.out.cell 2 rfl); (have c3 := pW5.out.cell 3 rfl); (have lW := pW5.out.lt); (haveI : In w.heap.size w5 := ⟨lW⟩); replace hor := hide hor; clear hY))
    go_returns
    exact ⟨_, [], rfl, rfl, OwnP.nil _ _, hXW.out.trans hX5.out⟩
  have e2 : hpL (eds L) s hp f r = hpT s hp f r (eds L) := by unfold hpL; rw [eE, hE, if_pos rfl]
  rw [eE, e2, hE]
  rw [hE] at hco
  obtain ⟨RR, hRR⟩ : ∃ RR, RR = hpT s hp f r (eds L) := ⟨_, rfl⟩
  rw [← hRR]
  unfold hpT at hRR
  obtain ⟨G, hG⟩ : ∃ G, G = grp (eds L) := ⟨_, rfl⟩
  have hLl : L.length ≤ 4096 := by have := mayE_len hm; simpa [eds] using this
  have hgl : G.length ≤ 4096 := by have := grp_len2 (eds L); rw [show (eds L).length = L.length from List.length_map _] at this; rw [hG]; omega
  have hG8 : ∀ g ∈ G, g.1.length ≤ 8 := by rw [hG]; exact grp_r8 hm
  rw [← hG] at hRR hE
  have hrl : ∀ t, (hrows s hp f r G t).length ≤ 4096 := fun t => by have := hrows_len s hp f r G t G.length; rw [List.take_length] at this; omega
  have hr8 : ∀ t, ∀ c ∈ hrows s hp f r G t, c.1.length ≤ 8 := fun t c hc => by
    unfold hrows at hc
    obtain ⟨g, hg, rfl⟩ := List.mem_map.1 hc
    exact hG8 g (List.mem_filter.1 hg).1
  have hK1 : (hkeys s hp f r G).length ≤ 1024 := by
    unfold hcE at hE
    split at hE
    · exact absurd hE (by decide)
    · omega
  obtain ⟨K, hK⟩ : ∃ K, K = hkeys s hp f r G := ⟨_, rfl⟩
  rw [← hK] at hRR hK1
  have hKa : Hid (K.Pairwise (· < ·)) := by rw [hK]; exact hkeys_asc s hp f r G
  have hKm : Hid (∀ t, t ∈ K ↔ hrows s hp f r G t ≠ []) := fun t => by rw [hK]; exact hrows_none.symm
  have hGe := hide hG
  replace hG8 := hide hG8
  replace hrl := hide hrl
  replace hr8 := hide hr8
  replace hK := hide hK
  replace hRR := hide hRR
  have hss := hide hs
  clear hm ht e2 hs hh hf hr eE hE hG
  go_enter Tryz.func25, Tryz.ntmps25
  go_wp2_with (first | (go_at_call 53; refine (h1.out _).mono ?_; rintro ee w1 ⟨rfl, hY⟩; have hX1 := hide hY; have pW1 := hide (pW.out.ext hX1.out); (have c0 := pW1.out.cell 0 rfl); (have c1 := pW1.out.cell 1 rfl); (have c2 := pW1.out.cell 2 rfl); (have c3 := pW1.out.cell 3 rfl); (have lW := pW1.out.lt); (haveI : In w.heap.size w1 := ⟨lW⟩); clear hY) | (go_at_call 45; refine (h2.out _ (hXW.out.trans hX1.out)).mono ?_; rintro ee w2 ⟨rfl, hY⟩; have hX2 := hide (hX1.out.trans hY); have pW2 := hide (pW.out.ext hX2.out); (have c0 := pW2.out.cell 0 rfl); (have c1 := pW2.out.cell 1 rfl); (have c2 := pW2.out.cell 2 rfl); (have c3 := pW2.out.cell 3 rfl); (have lW := pW2.out.lt); (haveI : In w.heap.size w2 := ⟨lW⟩); clear hY) | (go_at_call 54; refine (h3.out _ (hXW.out.trans hX2.out)).mono ?_; rintro ee w3 ⟨rfl, hY⟩; have hX3 := hide (hX2.out.trans hY); have pW3 := hide (pW.out.ext hX3.out); (have c0 := pW3.out.cell 0 rfl); (have c1 := pW3.out.cell 1 rfl); (have c2 := pW3.out.cell 2 rfl); (have c3 := pW3.out.cell 3 rfl); (have lW := pW3.out.lt); (haveI : In w.heap.size w3 := ⟨lW⟩); clear hY) | (go_at_call 55; refine (h4.out _).mono ?_; rintro ee w4 ⟨rfl, hY⟩; have hX4 := hide (hX3.out.trans hY); have pW4 := hide (pW.out.ext hX4.out); (have c0 := pW4.out.cell 0 rfl); (have c1 := pW4.out.cell 1 rfl); (have c2 := pW4.out.cell 2 rfl); (have c3 := pW4.out.cell 3 rfl); (have lW := pW4.out.lt); (haveI : In w.heap.size w4 := ⟨lW⟩); clear hY) | (go_at_call 56; refine (hco.out _ (hXW.out.trans hX4.out)).mono ?_; rintro ee w5 ⟨mv, rfl, hY, hor⟩; have hX5 := hide (hX4.out.trans hY); have pW5 := hide (pW.out.ext hX5.out); (have c0 := pW5.out.cell 0 rfl); (have c1 := pW5.out.cell 1 rfl); (have c2 := pW5.out.cell 2 rfl); (have c3 := pW5.out.cell 3 rfl); (have lW := pW5.out.lt); (haveI : In w.heap.size w5 := ⟨lW⟩); obtain ⟨-, mb, n, T, hmv, hG5, hmbw, hro, hTl⟩ := hor.resolve_right (fun h => absurd h.1 (by decide)); subst hmv; have hzz5 := hide (hXW.out.trans hX4.out).size; replace hG5 := hide (hG5.base hzz5.out); replace hro := hide hro; clear hY hor) | (go_at_call 58; refine (hkeysFn_c mb w5).mono ?_; rintro ee w6 ⟨rfl, hb6, hY⟩; have hX6 := hide (hX5.out.trans hY); have hb6' := hide hb6; have hG6 := hide ((GrpH.stab (B := mb + 1) (Nat.lt_succ_self mb)).ext _ _ hG5.out hY); clear hY hb6) | (go_at_call 57; refine (hsorted_c mb n T _ w6 hG6.out.1 hb6'.out (by omega)).mono ?_; rintro ee w7 ⟨vK, rfl, hoK, hY⟩; have hX7 := hide (hX6.out.trans hY); have hG7 := hide ((GrpH.stab (B := mb + 1) (Nat.lt_succ_self mb)).ext _ _ hG6.out hY); (have hKe := srt_eq hG6.out.nodup hKa.out (fun x => by rw [keys_of hG6.out.nodup (fun p hp1 => (hG6.out.2.2.1 p hp1).1) x, hro.out, ← hGe.out, hrows_none, hK.out])); rw [hKe] at hoK; (have hoK2 : OwnZ w7 w.heap.size vK K := own_base hoK (hXW.out.trans hX6.out).size); obtain ⟨KA, kcap, qK⟩ := own_form hoK2; subst qK; replace hoK2 := hide hoK2; clear hY hoK hKe))
  obtain ⟨bW, hbW⟩ : ∃ bW, bW = w.heap.size := ⟨_, rfl⟩
  have pW7 : Hid (Ob w7 bW 82 [.int .i64 s, .int .i64 hp, .int .i64 f, .int .i64 r]) := by rw [hbW]; exact pW.out.ext hX7.out
  have hXw7 := hide (hXW.out.trans hX7.out)
  rw [← hbW]
  have hbW' := hide hbW
  clear hbW hX1 hX2 hX3 hX4 pW1 pW2 pW3 pW4 pW5 hX5 hX6 hG5 hG6 hb6' hXW pW hX7
  try clear c0 c1 c2 c3
  try clear c0 c1 c2 c3
  try clear c0 c1 c2 c3
  try clear c0 c1 c2 c3
  try clear c0 c1 c2 c3
  go_loopg [15, 50] K.length (fun gh u i wr => ∃ (k : Nat) (P : List Vp), i = .int .i64 k ∧ k + gh = K.length ∧ Hid (OwnP wr w.heap.size u P) ∧ Hid (pts P = (K.take k).map fun t => ((t, hend s t), hrows s hp f r G t)) ∧ Hid (∀ p ∈ P, ∃ e ∈ T, e.1 ∈ K.take k ∧ e.2.1 = p.1) ∧ Hid (Mv wr Tryz.prog 3 kentH mb n T) ∧ Hid (∀ e ∈ T, e.1 ∉ K.take k → OwnC wr w.heap.size e.2.1 e.2.2) ∧ Hid (OwnZ wr w.heap.size (.slice KA K.length kcap) K) ∧ Hid (Ob wr bW 82 [.int .i64 s, .int .i64 hp, .int .i64 f, .int .i64 r]) ∧ Hid (Ext w wr))
  case atStart => exact ⟨0, [], by go_num, by omega, OwnP.nil _ _, rfl, (by intro p hp; cases hp), hG7.out.1, fun e he _ => hG7.out.2.1 e he, hoK2, pW7, hXw7⟩
  case round =>
    obtain ⟨k, P, rfl, hk, hO, hpt, hPe, hM, hOC, hZ, hpWr, hX⟩ := hrel
    obtain ⟨PA, pcap, rfl⟩ := hO.out.form
    by_cases hlt : k < K.length
    · obtain ⟨t, ht⟩ : ∃ t, K[k]? = some t := ⟨_, List.getElem?_eq_getElem hlt⟩
      have htK := hide (asc_fresh hKa.out ht)
      have htn := hide (show K.take (k + 1) = K.take k ++ [t] by rw [List.take_add_one, ht]; rfl)
      have hPl : P.length = k := by have := congrArg List.length hpt.out; simp only [List.length_map, List.length_take] at this; omega
      obtain ⟨v0, C0, hgt⟩ : ∃ v0 C0, getH T t = some (t, v0, C0) := by
        have h5 := (keys_of hG7.out.nodup (fun p hp1 => (hG7.out.2.2.1 p hp1).1) t).2 (by rw [hro.out, ← hGe.out]; exact (hKm.out t).1 (List.mem_of_getElem? ht))
        obtain ⟨e, he, rfl⟩ := List.mem_map.1 h5
        exact ⟨e.2.1, e.2.2, getH_of hG7.out.nodup he⟩
      have hmT := (getH_mem hgt).1
      obtain ⟨ht1, ht2⟩ := (hG7.out.2.2.1 _ hmT).2
      simp only at ht1 ht2
      have hcr : cps C0 = hrows s hp f r G t := by rw [cps_rows hgt, hro.out, ← hGe.out]
      have hCl : C0.length ≤ 4096 := by have := hrl.out t; rw [← hcr, List.length_map] at this; exact this
      have hC8 : ∀ c ∈ C0, c.2.1.length ≤ 8 := fun c hc => hr8.out t c.2 (by rw [← hcr]; exact List.mem_map_of_mem hc)
      have hown : OwnC wr w.heap.size v0 C0 := hOC.out _ hmT htK.out
      obtain ⟨VA, vcap, rfl⟩ := hown.form
      have hwi := hide (fun w' (hX' : Ext wr w') => hwith_c C0 w.heap.size (.slice VA C0.length vcap) w' (hown.ext hX') hCl hC8)
      have hlook := hide (show ∀ w', Fr (ob (.slice VA C0.length vcap)) wr w' → (Instr.lookup 83 (.map (some mb)) (.int .i64 t) false).run Tryz.prog w' = .ok (.slice VA C0.length vcap) w' from fun w' hF' => by
        rw [(mv_fr hM.out hown.1 hF').lookup hKey Tryz.underlying83 (z := .slice none 0 0) (by kernel_rfl) (hkey_of (by omega)), getM_h, hgt]
        rfl)
      have hat := hide (hat_c s hp f r t hss.out (by omega))
      obtain ⟨A', cp', e', -, -, hatK⟩ := zw_form (own_zw hZ.out)
      simp only [Value.slice.injEq] at e'
      obtain ⟨rfl, -, rfl⟩ := e'
      obtain ⟨bk, o, rfl, -, hbl, c0⟩ := hatK k t ht
      haveI : In bk wr := ⟨hbl⟩
      have hnW : Hid (bW ∉ ob (.slice VA C0.length vcap)) := fun hm => by
        obtain ⟨ds, d, hd⟩ := own_kind hown.1 hm
        exact no_kind hpWr.out (by decide) ds d hd
      have hVlt : Hid (∀ y ∈ ob (.slice VA C0.length vcap), y < wr.heap.size) := fun y hy => (ob_ge hown.1 y hy).2
      have hst61 : ∀ (v : Value) (W1 W2 : World), (v = .slice VA C0.length vcap ∧ ∃ C', cps C' = cps C0 ∧ OwnC W1 w.heap.size (.slice VA C0.length vcap) C') → Ext W1 W2 → (v = .slice VA C0.length vcap ∧ ∃ C', cps C' = cps C0 ∧ OwnC W2 w.heap.size (.slice VA C0.length vcap) C') := by
        rintro v W1 W2 ⟨e1, C', e2, e3⟩ e
        exact ⟨e1, C', e2, e3.ext e⟩
      have hst63 : ∀ (v : Value) (W1 W2 : World), (∃ p, v = .slice (some ⟨p, 0, none⟩) 1 1 ∧ (wr.heap.size ≤ p ∧ Ob W1 p 52 [.int .i64 t, .int .i64 (hend s t), .slice VA C0.length vcap])) → Ext W1 W2 → (∃ p, v = .slice (some ⟨p, 0, none⟩) 1 1 ∧ (wr.heap.size ≤ p ∧ Ob W2 p 52 [.int .i64 t, .int .i64 (hend s t), .slice VA C0.length vcap])) := by
        rintro v W1 W2 ⟨p, h1, h2, h3⟩ e
        exact ⟨p, h1, h2, h3.ext e⟩
      replace hown := hide hown
      replace hcr := hide hcr
      replace hC8 := hide hC8
      replace hgt := hide hgt
      replace hmT := hide hmT
      replace ht := hide ht
      clear hatK
      have hzw := hX.out.size
      go_wp2_with fail
      have pWr := hpWr.out
      refine wp_region_list_once (G := Fr (ob (.slice VA C0.length vcap))) 10 7 [(.is (.slice PA P.length pcap)), (.is (.agg #[.int .i64 s, .int .i64 hp, .int .i64 f, .int .i64 r])), (.is (.int .i64 t)), (.is (.agg #[.int .i64 t, .int .i64 (hend s t)])), (.is (.map (some mb))), (.is (.int .i64 t)), (.is (.slice VA C0.length vcap)), (.st (fun v w5 => v = .slice VA C0.length vcap ∧ ∃ C', cps C' = cps C0 ∧ OwnC w5 w.heap.size (.slice VA C0.length vcap) C') hst61), (.is (.agg #[.int .i64 t, .int .i64 (hend s t), .slice VA C0.length vcap])), (.st (fun v w5 => ∃ p, v = .slice (some ⟨p, 0, none⟩) 1 1 ∧ (wr.heap.size ≤ p ∧ Ob w5 p 52 [.int .i64 t, .int .i64 (hend s t), .slice VA C0.length vcap])) hst63)] (fun _ _ h => Fr.of_ext h) (fun _ _ _ h k => h.trans k) ?_ (by kernel_rfl) (by kernel_rfl) (by kernel_rfl) (by kernel_rfl) (by kernel_rfl) (by kernel_rfl) (by kernel_rfl) ?_ ?_
      · intro j v0 A0 A1 hj _ hh hF0
        rcases j with _ | _ | _ | _ | _ | _ | _ | _ | _ | _ | j
        all_goals first | exact hh | exact absurd rfl hj | skip
        obtain ⟨p, q1, q2, q3⟩ := hh
        exact ⟨p, q1, q2, q3.fr hF0 (fun hm => by have := hVlt.out p hm; omega)⟩
      · refine ⟨?_, ?_, ?_, ?_, ?_, ?_, ?_, ?_, ?_, ?_, trivial⟩
        · intro b w' h hE
          have f15 : b.tmps.getD 15 undef = (.slice PA P.length pcap) := hE 15 (of_decide_eq_true (by kernel_rfl))
          have g15 : b.tmps[15]?.getD undef = (.slice PA P.length pcap) := by rw [← Array.getD_eq_getD_getElem?]; exact f15
          exact .inl (good_move (wanted_none rfl) rfl f15)
        · intro b w' h hE
          have f12 : b.tmps.getD 12 undef = (.pointer (some ⟨bW, 0, none⟩)) := hE 12 (of_decide_eq_true (by kernel_rfl))
          have g12 : b.tmps[12]?.getD undef = (.pointer (some ⟨bW, 0, none⟩)) := by rw [← Array.getD_eq_getD_getElem?]; exact f12
          have c0 := (hpWr.out.fr h.ext hnW.out).cell 0 rfl
          have c1 := (hpWr.out.fr h.ext hnW.out).cell 1 rfl
          have c2 := (hpWr.out.fr h.ext hnW.out).cell 2 rfl
          have c3 := (hpWr.out.fr h.ext hnW.out).cell 3 rfl
          exact .inl (good_load (wanted_none rfl) rfl f12 (by simp [go_sem, c0, c1, c2, c3]) rfl)
        · intro b w' h hE
          have f17 : b.tmps.getD 17 undef = (.int .i64 t) := hE 17 (of_decide_eq_true (by kernel_rfl))
          have g17 : b.tmps[17]?.getD undef = (.int .i64 t) := by rw [← Array.getD_eq_getD_getElem?]; exact f17
          exact .inl (good_move (wanted_none rfl) rfl f17)
        · intro b w' h hE
          have f55 : b.tmps.getD 55 undef = (.agg #[.int .i64 s, .int .i64 hp, .int .i64 f, .int .i64 r]) := h.dep 1 _ 55 (by kernel_rfl) rfl rfl
          have g55 : b.tmps[55]?.getD undef = (.agg #[.int .i64 s, .int .i64 hp, .int .i64 f, .int .i64 r]) := by rw [← Array.getD_eq_getD_getElem?]; exact f55
          have f56 : b.tmps.getD 56 undef = (.int .i64 t) := h.dep 2 _ 56 (by kernel_rfl) rfl rfl
          have g56 : b.tmps[56]?.getD undef = (.int .i64 t) := by rw [← Array.getD_eq_getD_getElem?]; exact f56
          refine .inl (good_call (wanted_none rfl) rfl (enters Tryz.func59 (by kernel_rfl) rfl) ?_)
          rw [show (#[.tmp 55, .tmp 56] : Array Operand).map b.eval = #[winV s hp f r, .int .i64 t] by simp [Act.eval, g55, g56]]
          exact (hat.out w').mono fun e w1 ⟨he, hx⟩ => ⟨_, he, rfl, hx⟩
        · intro b w' h hE
          have f13 : b.tmps.getD 13 undef = (.map (some mb)) := hE 13 (of_decide_eq_true (by kernel_rfl))
          have g13 : b.tmps[13]?.getD undef = (.map (some mb)) := by rw [← Array.getD_eq_getD_getElem?]; exact f13
          exact .inl (good_move (wanted_none rfl) rfl f13)
        · intro b w' h hE
          have f17 : b.tmps.getD 17 undef = (.int .i64 t) := hE 17 (of_decide_eq_true (by kernel_rfl))
          have g17 : b.tmps[17]?.getD undef = (.int .i64 t) := by rw [← Array.getD_eq_getD_getElem?]; exact f17
          exact .inl (good_move (wanted_none rfl) rfl f17)
        · intro b w' h hE
          have f58 : b.tmps.getD 58 undef = (.map (some mb)) := h.dep 4 _ 58 (by kernel_rfl) rfl rfl
          have g58 : b.tmps[58]?.getD undef = (.map (some mb)) := by rw [← Array.getD_eq_getD_getElem?]; exact f58
          have f59 : b.tmps.getD 59 undef = (.int .i64 t) := h.dep 5 _ 59 (by kernel_rfl) rfl rfl
          have g59 : b.tmps[59]?.getD undef = (.int .i64 t) := by rw [← Array.getD_eq_getD_getElem?]; exact f59
          exact .inl (good_run (wanted_none rfl) (by simp [execOp, Act.eval, g58, g59, hlook.out w' h.ext, Sem.run_bind, Sem.run_pure, Result.andThen_ok]) rfl)
        · intro b w' h hE
          have f60 : b.tmps.getD 60 undef = (.slice VA C0.length vcap) := h.dep 6 _ 60 (by kernel_rfl) rfl rfl
          have g60 : b.tmps[60]?.getD undef = (.slice VA C0.length vcap) := by rw [← Array.getD_eq_getD_getElem?]; exact f60
          refine goodO_call rfl (wanted_none rfl) rfl (enters Tryz.func60 (by kernel_rfl) rfl) ?_
          rw [show (#[.tmp 60] : Array Operand).map b.eval = #[.slice VA C0.length vcap] by simp [Act.eval, g60]]
          exact (hwi.out w' (h.early rfl)).mono fun e w1 ⟨C', he, h1, h2, h3⟩ => ⟨_, he, ⟨rfl, C', h1, h2⟩, h3⟩
        · intro b w' h hE
          have f57 : b.tmps.getD 57 undef = (.agg #[.int .i64 t, .int .i64 (hend s t)]) := h.dep 3 _ 57 (by kernel_rfl) rfl rfl
          have g57 : b.tmps[57]?.getD undef = (.agg #[.int .i64 t, .int .i64 (hend s t)]) := by rw [← Array.getD_eq_getD_getElem?]; exact f57
          have f61 : (fun v w5 => v = .slice VA C0.length vcap ∧ ∃ C', cps C' = cps C0 ∧ OwnC w5 w.heap.size (.slice VA C0.length vcap) C') (b.tmps.getD 61 undef) w' := h.dep 7 _ 61 (by kernel_rfl) rfl rfl
          have g61 : b.tmps[61]?.getD undef = .slice VA C0.length vcap := by rw [← Array.getD_eq_getD_getElem?]; exact f61.1
          exact .inl (good_run (wanted_none rfl) (by simp [execOp, Act.eval, go_sem, g57, g61, Sem.run_bind, Sem.run_pure, Result.andThen_ok]) rfl)
        · intro b w' h hE
          have f62 : b.tmps.getD 62 undef = (.agg #[.int .i64 t, .int .i64 (hend s t), .slice VA C0.length vcap]) := h.dep 8 _ 62 (by kernel_rfl) rfl rfl
          have g62 : b.tmps[62]?.getD undef = (.agg #[.int .i64 t, .int .i64 (hend s t), .slice VA C0.length vcap]) := by rw [← Array.getD_eq_getD_getElem?]; exact f62
          exact .inl (good_grow (w' := w'.alloc (.cells #[.int .i64 t, .int .i64 (hend s t), .slice VA C0.length vcap] 52)) (v := .slice (some ⟨w'.heap.size, 0, none⟩) 1 1) (wanted_none rfl) (by simp [execOp, Act.eval, go_sem, g62, Sem.run_bind, Sem.run_pure, Result.andThen_ok]) ⟨_, rfl, h.ext.size, Ob.new w' _ [_, _, _]⟩ ((Ext.refl _).alloc _))
      · intro b w8 hF8 hd hz he' hf8
        have f54 : b.tmps.getD 54 undef = (.slice PA P.length pcap) := hf8 0 _ 54 (by omega) rfl rfl
        have f61 : (fun v w5 => v = .slice VA C0.length vcap ∧ ∃ C', cps C' = cps C0 ∧ OwnC w5 w.heap.size (.slice VA C0.length vcap) C') (b.tmps.getD 61 undef) w8 := hf8 7 _ 61 (by omega) rfl rfl
        have f63 : (fun v w5 => ∃ p, v = .slice (some ⟨p, 0, none⟩) 1 1 ∧ (wr.heap.size ≤ p ∧ Ob w5 p 52 [.int .i64 t, .int .i64 (hend s t), .slice VA C0.length vcap])) (b.tmps.getD 63 undef) w8 := hf8 9 _ 63 (by omega) rfl rfl
        obtain ⟨-, C', hcp', hO8⟩ := f61
        obtain ⟨p, f63, hpz, hpo⟩ := f63
        have e := frame_puts hd hz he'
        obtain ⟨X, hXx⟩ : ∃ X : Nat → Value, ∀ d, b.tmps.getD d undef = X d := ⟨_, fun _ => rfl⟩
        rw [hXx] at f54 f63
        rw [show dstsOf _ = [54, 55, 56, 57, 58, 59, 60, 61, 62, 63] from rfl] at e
        simp only [List.foldl_cons, List.foldl_nil, hXx, Act.put, List.setIfInBounds_toArray, List.set_cons_succ, List.set_cons_zero] at e
        rw [f54, f63] at e
        clear hf8 he' hz hd hXx f54 f63
        subst e
        simp only [List.drop_succ_cons, List.drop_zero]
        have hkd : ∀ b ∈ ob (Value.slice VA C0.length vcap), ∀ cs c, wr.heap[b]? ≠ some (.cells cs 64 c) := fun b hb => by
          obtain ⟨ds, d, hd⟩ := own_kind hown.out.1 hb
          exact copy_no_value hd
        have hP8 : OwnP w8 w.heap.size (.slice PA P.length pcap) P := hO.out.away hF8 (fun b hb => ⟨⟨own_far hown.out.1 hO.out.1 (by decide) b hb, fun p hp1 => by
          obtain ⟨e, he, hek, hev⟩ := hPe.out p hp1
          rw [← hev]
          exact dis_of hG7.out.2.2.2 hmT.out he (fun hh => htK.out (by rw [show t = e.1 from hh]; exact hek)) b hb⟩, hkd b hb⟩)
        have hM8 := mv_fr hM.out hown.out.1 hF8
        have hOC8 : ∀ e ∈ T, e.1 ∉ K.take (k + 1) → OwnC w8 w.heap.size e.2.1 e.2.2 := fun e he hne => (hOC.out e he (fun hm => hne (by rw [htn.out]; exact List.mem_append_left _ hm))).away hF8 (fun b hb => ⟨dis_of hG7.out.2.2.2 hmT.out he (fun hh => hne (by rw [htn.out]; exact List.mem_append_right _ (by rw [show e.1 = t from hh.symm]; simp))) b hb, hkd b hb⟩)
        have hZ8 := own_away hZ.out hF8 (own_far hown.out.1 hZ.out (by decide))
        have hW8 := hpWr.out.fr hF8 hnW.out
        have hX8 : Ext w w8 := ext_fr hX.out hF8 (fun b hb => (ob_ge hown.out.1 b hb).1)
        have hz8 := hF8.size
        have hsrc := hide (src_sl Tryz.underlying34 (S := []) (size := 3) (n := 1) (v := .slice (some ⟨p, 0, none⟩) 1 1) (xs := [.int .i64 t, .int .i64 (hend s t), .slice VA C0.length vcap]) ⟨_, 1, rfl, Nat.le_refl _, by unfold maxLen; omega, by simp, .inr ⟨p, 0, rfl, by simp, fun j u hu => by rw [Nat.zero_add]; exact hpo.cell j hu⟩⟩ (by intro u hu; simp only [List.mem_cons, List.not_mem_nil, or_false] at hu; rcases hu with rfl | rfl | rfl <;> rfl) (by omega))
        replace hP8 := hide hP8
        replace hM8 := hide hM8
        replace hOC8 := hide hOC8
        replace hZ8 := hide hZ8
        replace hW8 := hide hW8
        replace hX8 := hide hX8
        replace hO8 := hide hO8
        replace hcp' := hide hcp'
        replace hpo := hide hpo
        replace hF8 := hide hF8
        replace hkd := hide hkd
        go_wp2_with (at_builtin; refine wpl_app tPa rfl (.tmp 54) (.tmp 63) rfl rfl hP8.out.1 rfl hsrc.out (by unfold maxLen; omega) (by omega) (by omega) ?_; intro v9 w9 ho9 hg9 hob9; have ho10 := hide ho9; have hg10 := hide hg9; obtain ⟨A9, c9, q9⟩ := own_form ho9; subst q9; clear ho9 hg9 hob9)
        have hF9 : Fr (ob (.slice PA P.length pcap)) w8 w9 := fr_grown hg10.out
        have hkp : ∀ b ∈ ob (Value.slice PA P.length pcap), ∃ ds d, w8.heap[b]? = some (.cells ds 52 d) := fun b hb => own_kind hP8.out.1 hb
        go_frame
        go_wp2_with fail
        go_roundg (K.length - (k + 1))
        case measure => omega
        case rel =>
          refine ⟨k + 1, P ++ [(Value.slice VA C0.length vcap, (t, hend s t), C')], by go_num, by omega, (show OwnP w9 w.heap.size (.slice A9 (P.length + 1) c9) (P ++ [(Value.slice VA C0.length vcap, (t, hend s t), C')]) from OwnP.app (p := (.slice VA C0.length vcap, (t, hend s t), C')) hP8.out hF9 (by simpa [pt1] using ho10.out) hO8.out), ?_, ?_, mv_fr hM8.out hP8.out.1 hF9, ?_, own_away hZ8.out hF9 (own_far hP8.out.1 hZ8.out (by decide)), ?_, ext_fr hX8.out hF9 (fun b hb => (ob_ge hP8.out.1 b hb).1)⟩
          · show _ = _
            rw [pts_append, hpt.out, htn.out, List.map_append]
            show _ ++ [((t, hend s t), cps C')] = _
            rw [hcp'.out, hcr.out]
            rfl
          · intro p hp1
            rcases List.mem_append.1 hp1 with hp1 | hp1
            · obtain ⟨e, he, hek, hev⟩ := hPe.out p hp1
              exact ⟨e, he, by rw [htn.out]; exact List.mem_append_left _ hek, hev⟩
            · obtain rfl := List.mem_singleton.1 hp1
              exact ⟨_, hmT.out, by rw [htn.out]; simp, rfl⟩
          · intro e he hne
            exact (hOC8.out e he hne).away hF9 (fun b hb => ⟨own_far hP8.out.1 (hOC8.out e he hne).1 (by decide) b hb, fun cs c => by obtain ⟨ds, d, hd⟩ := hkp b hb; exact no_kind hd (by decide) cs c⟩)
          · refine hW8.out.fr hF9 (fun hm => ?_)
            obtain ⟨ds, d, hd⟩ := hkp _ hm
            exact no_kind hW8.out (by decide) ds d hd
    · have hkc : k = K.length := by omega
      have hfin := hide (show pts P = (K.map fun t => ((t, hend s t), hrows s hp f r G t)) by rw [hpt.out, List.take_of_length_le (by omega)])
      go_wp2_with fail
      go_returns
      exact ⟨_, P, rfl, by rw [hfin.out, hRR.out, hK.out], hO.out, hX.out⟩
end Go.Proofs.YtljkneajdndgjaaGreat
