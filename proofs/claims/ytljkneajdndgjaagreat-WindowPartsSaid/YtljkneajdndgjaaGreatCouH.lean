/-
  A helper of ours: no claim of its own. Layer 29 (counts): each window is given its rows, by the code.
-/
import Derived.Test.YtljkneajdndgjaaGreatCouG
import Derived.Test.YtljkneajdndgjaaGreatHopL
set_option linter.unusedVariables false
set_option linter.unusedSimpArgs false
namespace Go.Proofs.YtljkneajdndgjaaGreat
open Go.RowKit
attribute [local go_sem] GW.cell GW.frozen In.eq_true In.le_true In.ne In.ne' In.ne_add In.ne_add' In.lt_add Upto.le_true Upto.le_add Upto.lt_add Oper.semAt_some wide_depth wide_fn
/-- The rows of a window. -/
def cfR (G : List Gp) (s : Int × Int) : List Cp := (G.filter fun g => decide (0 < begN g.2 s.1 s.2)).map fun g => (g.1, begN g.2 s.1 s.2)
theorem cfR_next {G : List Gp} {k : Nat} {g : Gp} (h : G[k]? = some g) (s : Int × Int) : cfR (G.take (k + 1)) s = cfR (G.take k) s ++ (if 0 < begN g.2 s.1 s.2 then [(g.1, begN g.2 s.1 s.2)] else []) := by
  unfold cfR
  rw [List.take_add_one, h, Option.toList_some, List.filter_append, List.map_append]
  congr 1
  by_cases c : 0 < begN g.2 s.1 s.2 <;> simp [c]
theorem cfR_len (G : List Gp) (s : Int × Int) (k : Nat) : (cfR (G.take k) s).length ≤ k := by
  unfold cfR
  rw [List.length_map]
  exact Nat.le_trans (List.length_filter_le _ _) (by rw [List.length_take]; omega)
theorem OwnP.stab {B B0 : Nat} {v : Value} {P : List Vp} : Stab B fun W => OwnP W B0 v P := (Stab.own _ _ _ _ _ _).and (Stab.all fun p => Stab.all fun _ => OwnC.stab)
theorem pt_row : ∀ (P : List Vp) (j : Nat) (p : Vp) (v9 : Value) (C9 : List Vc), P[j]? = some p → (pt P).set (j * 3 + 2) v9 = pt (P.set j (v9, p.2.1, C9))
  | [], j, p, v9, C9, h => by simp at h
  | x :: P, 0, p, v9, C9, h => by
    simp only [List.getElem?_cons_zero, Option.some.injEq] at h
    subst h
    rw [List.set_cons_zero, pt_cons, pt_cons]
    rfl
  | x :: P, j + 1, p, v9, C9, h => by
    rw [List.set_cons_succ, pt_cons, pt_cons, ← pt_row P j p v9 C9 (by simpa using h), show (j + 1) * 3 + 2 = (pt1 x).length + (j * 3 + 2) by show _ = 3 + _; omega, List.set_append_right _ _ (by omega), Nat.add_sub_cancel_left]
/-- One part is given other rows. -/
theorem OwnP.row {w3 w8 : World} {B g N cap j : Nat} {P : List Vp} {p : Vp} {v9 : Value} {C9 : List Vc} (hP : OwnP w3 B (.slice (some ⟨g, 0, none⟩) N cap) P) (hd : Dis P) (hj : P[j]? = some p) (hF : Fr (ob p.1) w3 w8) (hC : OwnC w8 B v9 C9) (hb : ∀ b ∈ ob v9, b ∈ ob p.1 ∨ w3.heap.size ≤ b) :
    OwnP (w8.setCell ⟨g, j * 3 + 2, none⟩ v9) B (.slice (some ⟨g, 0, none⟩) N cap) (P.set j (v9, p.2.1, C9)) ∧ Dis (P.set j (v9, p.2.1, C9)) := by
  have hNl : N = P.length := by
    obtain ⟨a, b, e⟩ := own_form hP.1
    simp only [Value.slice.injEq] at e
    exact e.2.1
  subst hNl
  have hpm := hP.2 p (List.mem_of_getElem? hj)
  have hjl := (List.getElem?_eq_some_iff.1 hj).1
  have hje := (List.getElem?_eq_some_iff.1 hj).2
  have own8 := own_away hP.1 hF (own_far hpm.1 hP.1 (by decide))
  have hF9 : Fr [g] w8 (w8.setCell ⟨g, j * 3 + 2, none⟩ v9) := (Fr.refl [g] w8).setCell ⟨g, j * 3 + 2, none⟩ _ (.inl (by simp))
  have hkp : ∀ b ∈ ob p.1, ∀ cs c, w3.heap[b]? ≠ some (.cells cs 64 c) := fun b hb => by
    obtain ⟨ds, d, hd⟩ := own_kind hpm.1 hb
    exact copy_no_value hd
  have hgk : ∃ ds d, w8.heap[g]? = some (.cells ds 52 d) := own_kind own8 (Option.mem_toList.2 rfl)
  have hg9 : ∀ {v : Value} {C : List Vc}, OwnC w8 B v C → OwnC (w8.setCell ⟨g, j * 3 + 2, none⟩ v9) B v C := fun h => h.away hF9 fun b hb => by
    rw [List.mem_singleton] at hb
    subst hb
    obtain ⟨ds, d, hd⟩ := hgk
    refine ⟨fun hm => ?_, no_kind hd (by decide)⟩
    obtain ⟨es, e, he⟩ := own_kind h.1 hm
    exact no_kind he (by decide) ds d hd
  have hdis : ∀ i (q : Vp), i ≠ j → P[i]? = some q → ∀ b ∈ ob p.1, b ∉ ob q.1 := fun i q hij hi b hb1 hb2 => by
    have hP2 := List.pairwise_iff_getElem.1 hd
    obtain ⟨hil, hie⟩ := List.getElem?_eq_some_iff.1 hi
    rcases Nat.lt_or_gt_of_ne hij with h | h
    · have := hP2 i j hil hjl h b (by rw [hie]; exact hb2)
      rw [hje] at this
      exact this hb1
    · have := hP2 j i hjl hil h b (by rw [hje]; exact hb1)
      rw [hie] at this
      exact this hb2
  refine ⟨⟨?_, fun q hq => ?_⟩, ?_⟩
  · have h1 := (World.ownsRow.stored own8 (j * 3 + 2) v9).1
    rw [pt_row P j p v9 C9 hj] at h1
    rw [List.length_set]
    exact h1
  · obtain ⟨i, hi⟩ := List.getElem?_of_mem hq
    by_cases hij : i = j
    · subst hij
      rw [List.getElem?_set_self hjl] at hi
      obtain rfl := Option.some.inj hi
      exact hg9 hC
    · rw [List.getElem?_set_ne (Ne.symm hij)] at hi
      exact hg9 ((hP.2 q (List.mem_of_getElem? hi)).away hF fun b hb => ⟨hdis i q hij hi b hb, hkp b hb⟩)
  · have key : ∀ i (q : Vp), i ≠ j → P[i]? = some q → ∀ b ∈ ob v9, b ∉ ob q.1 := fun i q hij hi b hb1 hb2 => by
      rcases hb b hb1 with h | h
      · exact hdis i q hij hi b h hb2
      · have := (ob_ge (hP.2 q (List.mem_of_getElem? hi)).1 b hb2).2
        omega
    unfold Dis
    rw [List.pairwise_iff_getElem]
    intro a c ha hc hac b hb1 hb2
    rw [List.length_set] at ha hc
    rw [List.getElem_set] at hb1 hb2
    split at hb1
    · rename_i e1
      split at hb2
      · omega
      · exact key c _ (by omega) (List.getElem?_eq_getElem hc) b hb1 hb2
    · split at hb2
      · rename_i e2
        exact key a _ (by omega) (List.getElem?_eq_getElem ha) b hb2 hb1
      · exact List.pairwise_iff_getElem.1 hd a c ha hc hac b hb1 hb2
abbrev ICf (w0 : World) (b2 B n0 : Nat) (v : Value) (sp : List (Int × Int)) (G : List Gp) (k : Nat) (W : World) : Prop :=
  (∃ P, OwnP W B v P ∧ (Dis P ∧ (P.map (fun p => p.2.1) = sp ∧ ((∀ p ∈ P, cps p.2.2 = cfR (G.take k) p.2.1) ∧ ∀ p ∈ P, ∀ b ∈ ob p.1, n0 ≤ b)))) ∧ (Ob W b2 34 [v] ∧ (Ext w0 W ∧ n0 ≤ W.heap.size))
theorem ICf.stab (w0 : World) (b2 B n0 : Nat) (v : Value) (sp : List (Int × Int)) (G : List Gp) (k C : Nat) (hC : w0.heap.size ≤ C) : Stab C (ICf w0 b2 B n0 v sp G k) :=
  (Stab.ex fun P => OwnP.stab.and (Stab.pure _)).and ((Stab.ob _ _ _).and ((Stab.of_ext hC).and (szStab _ _)))
set_option maxHeartbeats 16000000 in
set_option maxRecDepth 100000 in
theorem fill_c (L : List Ve) (hm : mayE (eds L) = true) (P : List Vp) (g N cap : Nat) (hPl : N ≤ 4096) (hP0 : ∀ p ∈ P, p.1 = .slice none 0 0 ∧ p.2.2 = []) (lv : Value) (w0 w : World) (B : Nat) (hw : Ext w0 w) (hB : w0.heap.size ≤ B) (hP : OwnP w B (.slice (some ⟨g, 0, none⟩) N cap) P) (hPN : P.length = N) (hD : Dis P) (hL : Ew w [] lv L) : Calls Tryz.prog 94 #[.slice (some ⟨g, 0, none⟩) N cap, lv] w fun e w' => e = .returned (.tuple #[]) ∧ Ext w0 w' ∧ ∃ P', OwnP w' B (.slice (some ⟨g, 0, none⟩) N cap) P' ∧ Dis P' ∧ P'.map (fun p => p.2.1) = P.map (fun p => p.2.1) ∧ ∀ p ∈ P', cps p.2.2 = cfR (grp (eds L)) p.2.1 := by
  have hgr := hide (fun w' (hX : Ext w w') => groups_d L lv w' (hL.ext hX))
  obtain ⟨A, lcap, rfl, hlc, hlm, -⟩ := ew_form hL
  unfold maxLen at hlm
  have hGm : Hid (∀ g ∈ grp (eds L), mayJ g.2 = true ∧ g.1.length ≤ 8) := fun g hg => ⟨(mayE_iff.1 hm).2.2 g hg, grp_r8 hm g hg⟩
  have hLl : L.length ≤ 4096 := by have := mayE_len hm; simpa [eds] using this
  have hgl : (grp (eds L)).length ≤ 4096 := by have := grp_len2 (eds L); rw [show (eds L).length = L.length from List.length_map _] at this; omega
  have hob : ∀ y ∈ ob (Value.slice (some ⟨g, 0, none⟩) N cap), y < w.heap.size := fun y hy => (ob_ge hP.1 y hy).2
  have hP' := hide hP
  have hP0' := hide hP0
  have hw' := hide hw
  replace hD := hide hD
  clear hL hP hP0 hw
  refine calls_marks Tryz.func94 rfl ?_
  simp only [Tryz.ntmps94, List.size_toArray, List.length_cons, List.length_nil, Nat.reduceAdd, Nat.reduceSub, Array.replicate_succ, Array.replicate_zero, List.push_toArray, List.append_toArray, List.nil_append, List.cons_append]
  go_wp2_with (go_at_call 106; refine (hgr.out _ ((Ext.refl w).alloc _)).mono ?_; rintro ee w1 ⟨b, rfl, v1, M, hb, hM, hMe, hX1⟩)
  rw [if_pos hm] at hM
  have p2 : Ob w1 w.heap.size 34 [.slice (some ⟨g, 0, none⟩) N cap] := (Ob.new w 34 [.slice (some ⟨g, 0, none⟩) N cap]).ext hX1
  have hXw : Ext w w1 := ((Ext.refl w).alloc _).trans hX1
  have hX0 := hw'.out.trans hXw
  have hzw := hX0.size
  have hMx := hide (hMe (ob (.slice (some ⟨g, 0, none⟩) N cap)) (fun y hy => by have := hob y hy; simp; omega))
  obtain ⟨b2, hb2⟩ : ∃ b2, b2 = w.heap.size := ⟨_, rfl⟩
  rw [← hb2] at p2 ⊢
  have l2 := p2.lt
  have hzww := hXw.size
  clear hgr hX1 hMe hb2
  rw [← hM] at hGm hgl
  have hML : M.length ≤ 4096 := by have := congrArg List.length hM; simp only [eds, List.length_map] at this; omega
  replace hM := hide hM
  refine wp_rangeQ (X := ob (.slice (some ⟨g, 0, none⟩) N cap)) (xs := grp (eds M)) rfl (enters_of Tryz.func146 (by kernel_rfl) rfl) (groups_seqq (ob (.slice (some ⟨g, 0, none⟩) N cap)) M v1 w1 w1 b hMx.out (by omega) (fun g hg => Nat.le_trans (hGm.out g hg).2 (by omega)) (Ext.refl _) hb) (Ext.refl _) (Nat.le_refl _) (fun x vs W h => h.size) (fun x vs => Hgg.stab x vs)
    (ICf w0 b2 B w1.heap.size (.slice (some ⟨g, 0, none⟩) N cap) (P.map fun p => p.2.1) (grp (eds M)))
    (fun c k W => False)
    (fun k => ICf.stab w0 b2 B _ _ _ _ k _ hzw)
    (fun c k => Stab.pure _)
    ⟨⟨P, hP'.out.ext hXw, hD.out, rfl, fun p hp => (by rw [(hP0'.out p hp).2]; rfl), fun p hp b hb => (by rw [(hP0'.out p hp).1] at hb; simp [ob, Value.ownBlock] at hb)⟩, p2, hX0, Nat.le_refl _⟩
    (fun k x vs a' _ => ∃ r' f', vs = #[r', f'] ∧ a' = { tmps := #[.slice (some ⟨g, 0, none⟩) N cap, .slice A L.length lcap, .pointer (some ⟨b2, 0, none⟩), undef, r', f', undef, undef, undef, .slice A L.length lcap, .func (.func 146) #[] #[.pointer (some ⟨b, 0, none⟩)], r', f', undef, undef, undef, undef, undef, undef, undef, undef, undef, undef, undef, undef, undef, undef, undef, undef, undef, undef, undef, undef, undef, undef, undef, undef, undef, undef], defers := [] })
    (fun k x vs a' => Stab.pure _) ?assign ?body ?done ?stop
  case assign =>
    rintro LL k x vs W K _ ⟨r', f', rfl, -, -⟩ hK
    gi_wp2
    exact hK _ _ (Ext.refl _) ⟨_, _, rfl, rfl⟩
  case stop =>
    rintro D c k W hD hk h
    exact h.elim
  case done =>
    rintro D W hD2 ⟨⟨P1, hO, hDs, hsp, hcp, -⟩, hb2, hX, hz⟩ hK
    rw [List.take_of_length_le (Nat.le_refl _), hM.out] at hcp
    go_wp2_with fail
    refine ret_mark hK (v := .tuple #[]) ?_ ⟨rfl, put_ext hX (by omega) _, P1, ?_, hDs, hsp, hcp⟩
    · simp [results, Tryz.f94, go_sem]
    · exact (OwnP.stab (B := 0)).put _ D _ (.deferred none) hO (Nat.zero_le _) hK rfl
  case body =>
    rintro LL k ⟨q, J⟩ vs a' Wo hL2 hrec hx ⟨⟨P1, hO, hDs, hsp, hcp, hob1⟩, hb2, hX, hz⟩ ⟨rv, fv, e', hr', hf'⟩ ⟨rv', fv', rfl, rfl⟩
    obtain ⟨rfl, rfl⟩ : rv' = rv ∧ fv' = fv := by simpa using e'
    obtain ⟨hJm, hq8⟩ := hGm.out (q, J) (List.mem_of_getElem? hx)
    have hkl : k < (grp (eds M)).length := (List.getElem?_eq_some_iff.1 hx).1
    have hP1l : P1.length = N := by have := congrArg List.length hsp; rw [List.length_map, List.length_map] at this; omega
    obtain ⟨RA, rcap, rfl⟩ := own_form hr'
    obtain ⟨JA, jcap, rfl⟩ := own_form hf'
    have k2 := hb2.cell 0 rfl
    have m2 := hb2.lt
    haveI : In b2 Wo := ⟨m2⟩
    have hO' := hide hO
    have hDs' := hide hDs
    have hsp' := hide hsp
    have hcp' := hide hcp
    replace hob1 := hide hob1
    have hb2' := hide hb2
    have hX' := hide hX
    have hx' := hide hx
    have hr2 := hide hr'
    have hf2 := hide hf'
    replace hJm := hide hJm
    clear hO hDs hsp hcp hb2 hX hx hr' hf' hrec
    gi_wp2
    gi_loopg [15] N (fun gh i wr => ∃ (j : Nat) (P2 : List Vp), i = .int .i64 j ∧ j + gh = N ∧ Hid (OwnP wr B (.slice (some ⟨g, 0, none⟩) N cap) P2) ∧ Hid (Dis P2 ∧ (P2.map (fun p => p.2.1) = P1.map (fun p => p.2.1) ∧ ∀ p ∈ P2, ∀ b ∈ ob p.1, w1.heap.size ≤ b)) ∧ Hid (∀ i p, P2[i]? = some p → cps p.2.2 = cfR ((grp (eds M)).take (if i < j then k + 1 else k)) p.2.1) ∧ Hid (Ob wr b2 34 [.slice (some ⟨g, 0, none⟩) N cap]) ∧ Hid (Thr w1.heap.size w1.heap.size (ob (.slice (some ⟨g, 0, none⟩) N cap)) Wo wr) ∧ Hid (Ext w0 wr) ∧ Hid (OwnR wr 0 (.slice RA q.length rcap) q ∧ OwnJ wr 0 (.slice JA J.length jcap) J))
    case atStart => exact ⟨0, P1, by go_num, by omega, hO', ⟨hDs'.out, rfl, hob1.out⟩, fun i p hp => (by rw [if_neg (by omega)]; exact hcp'.out p (List.mem_of_getElem? hp)), hb2', Thr.refl _ _ _ _, hX', hr2.out, hf2.out⟩
    case round =>
      obtain ⟨j, P2, rfl, hj, hO2, hD2, hcp2, hb22, hTh, hX2, hrf⟩ := hrel
      by_cases hlt : j < N
      · have hl2 : P2.length = N := by have := congrArg List.length hD2.out.2.1; rw [List.length_map, List.length_map] at this; omega
        obtain ⟨⟨x, ⟨s, u⟩, C⟩, hp⟩ : ∃ p, P2[j]? = some p := ⟨_, List.getElem?_eq_getElem (by omega)⟩
        have hOo := hO2.out.1
        rw [hl2] at hOo
        have q0 := World.ownsRow.cellAt hOo (j * 3) (by omega)
        have q1 := World.ownsRow.cellAt hOo (j * 3 + 1) (by omega)
        have q2 := World.ownsRow.cellAt hOo (j * 3 + 2) (by omega)
        have e0 := pt_get P2 j _ hp 0 _ rfl
        rw [Nat.add_zero] at e0
        rw [e0] at q0
        rw [pt_get P2 j _ hp 1 _ rfl] at q1
        rw [pt_get P2 j _ hp 2 _ rfl] at q2
        rw [show j * 3 + 2 = j * 3 + 1 + 1 by omega] at q2
        have hpm := hO2.out.2 _ (List.mem_of_getElem? hp)
        simp only at hpm
        obtain ⟨CA, ccap, rfl⟩ := hpm.form
        simp only at q0 q1 q2
        obtain ⟨g', mc, eg, hgB, hgl⟩ := own_block2 hOo (by omega)
        simp only [Value.slice.injEq, Option.some.injEq, Addr.mk.injEq] at eg
        obtain ⟨⟨rfl, -⟩, -, rfl⟩ := eg
        haveI : In g wr := ⟨hgl⟩
        have hcpj := hcp2.out j _ hp
        rw [if_neg (by omega)] at hcpj
        simp only at hcpj
        have hCl : C.length ≤ 4096 := by have h1 := congrArg List.length hcpj; rw [List.length_map] at h1; have := cfR_len (grp (eds M)) (s, u) k; omega
        have hbe := hide (begun_c J hJm.out s u (.slice JA J.length jcap) (wr.alloc (.cells #[.int .i64 s, .int .i64 u, .slice CA C.length ccap] 52)) (own_ext hrf.out.2 ((Ext.refl wr).alloc _)))
        obtain ⟨n, hn⟩ : ∃ n, n = begN J s u := ⟨_, rfl⟩
        rw [← hn] at hbe
        have hXp := hide ((Ext.refl wr).alloc (.cells #[.int .i64 s, .int .i64 u, .slice CA C.length ccap] 52))
        obtain ⟨b7, hb7⟩ : ∃ b7, b7 = wr.heap.size := ⟨_, rfl⟩
        have o7 : Hid (Ob (wr.alloc (.cells #[.int .i64 s, .int .i64 u, .slice CA C.length ccap] 52)) b7 52 [.int .i64 s, .int .i64 u, .slice CA C.length ccap]) := by rw [hb7]; exact Ob.new wr _ [_, _, _]
        replace hb7 := hide hb7
        have hnx := hide (cfR_next hx'.out (s, u))
        have hpm' := hide hpm
        have hcpj' := hide hcpj
        have hp' := hide hp
        replace hn := hide hn
        clear hOo e0 hpm hcpj hp hl2
        by_cases hpos : 0 < n
        · gi_wp2_with (gi_at_call 139; refine (in_round hbe.out).mono ?_; rintro ee w3 ⟨rfl, hY⟩; have o73 := hide (o7.out.ext hY); have c0 := o73.out.cell 0 rfl; have c1 := o73.out.cell 1 rfl; have c2 := o73.out.cell 2 rfl; have l7 := o73.out.lt; rw [hb7.out] at c0 c1 c2 l7; (haveI : In wr.heap.size w3 := ⟨l7⟩); have hX3 := hide (hXp.out.trans hY); clear hY)
          have hz3 := hX3.out.size
          have hpm3 := hide (hpm'.out.ext hX3.out)
          have hO3 := hide (hO2.out.ext hX3.out)
          have hb23 := hide (hb22.out.ext hX3.out)
          have o7w : Hid (Ob w3 wr.heap.size 52 [.int .i64 s, .int .i64 u, .slice CA C.length ccap]) := by rw [← hb7.out]; exact o73.out
          have hr3 := hide (own_ext hrf.out.1 hX3.out)
          have hf3 := hide (own_ext hrf.out.2 hX3.out)
          have hltI : (j : Int) < (N : Int) := by omega
          have hVlt : Hid (∀ y ∈ ob (Value.slice CA C.length ccap), y < w3.heap.size) := fun y hy => (ob_ge hpm3.out.1 y hy).2
          have hkc : Hid (∀ y ∈ ob (Value.slice CA C.length ccap), ∃ ds d, w3.heap[y]? = some (.cells ds 56 d)) := fun y hy => own_kind hpm3.out.1 hy
          have hn2 : Hid (b2 ∉ ob (Value.slice CA C.length ccap)) := fun hm => by obtain ⟨ds, d, hd⟩ := hkc.out _ hm; exact no_kind hb23.out (by decide) ds d hd
          have hn7 : Hid (wr.heap.size ∉ ob (Value.slice CA C.length ccap)) := fun hm => by obtain ⟨ds, d, hd⟩ := hkc.out _ hm; exact no_kind o7w.out (by decide) ds d hd
          have hrow : Hid (∀ w', Fr (ob (.slice CA C.length ccap)) w3 w' → Rw w' [] (.slice RA q.length rcap) q) := fun w' hF' => Sl.own (own_away hr3.out hF' (own_far hpm3.out.1 hr3.out (by decide))) (by simp)
          have hfar : Hid (∀ (v0 : Value) (A0 A1 : World), OwnR A0 w3.heap.size v0 q → Fr (ob (.slice CA C.length ccap)) A0 A1 → OwnR A1 w3.heap.size v0 q) := fun v0 A0 A1 h hF0 => own_away h hF0 (fun y hy hm => by have h1 := hVlt.out y hy; have h2 := (ob_ge h y hm).1; omega)
          have hst31 : ∀ (v : Value) (W1 W2 : World), OwnR W1 w3.heap.size v q → Ext W1 W2 → OwnR W2 w3.heap.size v q := fun v W1 W2 h e => own_ext h e
          have hst33 : ∀ (v : Value) (W1 W2 : World), (∃ A9 c9, v = .agg #[.slice A9 q.length c9, .int .i64 n] ∧ OwnR W1 w3.heap.size (.slice A9 q.length c9) q) → Ext W1 W2 → (∃ A9 c9, v = .agg #[.slice A9 q.length c9, .int .i64 n] ∧ OwnR W2 w3.heap.size (.slice A9 q.length c9) q) := by
            rintro v W1 W2 ⟨A9, c9, h1, h2⟩ e
            exact ⟨A9, c9, h1, own_ext h2 e⟩
          have hst34 : ∀ (v : Value) (W1 W2 : World), (∃ p A9 c9, v = .slice (some ⟨p, 0, none⟩) 1 1 ∧ (w3.heap.size ≤ p ∧ (Ob W1 p 56 [.slice A9 q.length c9, .int .i64 n] ∧ OwnR W1 w3.heap.size (.slice A9 q.length c9) q))) → Ext W1 W2 → (∃ p A9 c9, v = .slice (some ⟨p, 0, none⟩) 1 1 ∧ (w3.heap.size ≤ p ∧ (Ob W2 p 56 [.slice A9 q.length c9, .int .i64 n] ∧ OwnR W2 w3.heap.size (.slice A9 q.length c9) q))) := by
            rintro v W1 W2 ⟨p, A9, c9, h1, h2, h3, h4⟩ e
            exact ⟨p, A9, c9, h1, h2, h3.ext e, own_ext h4 e⟩
          have hst35 : ∀ (v : Value) (W1 W2 : World), (∃ A9 c9, OwnC W1 B v (C ++ [(.slice A9 q.length c9, (q, n))]) ∧ ∀ b ∈ ob v, b ∈ ob (.slice CA C.length ccap) ∨ w3.heap.size ≤ b) → Ext W1 W2 → (∃ A9 c9, OwnC W2 B v (C ++ [(.slice A9 q.length c9, (q, n))]) ∧ ∀ b ∈ ob v, b ∈ ob (.slice CA C.length ccap) ∨ w3.heap.size ≤ b) := by
            rintro v W1 W2 ⟨A9, c9, h1, h2⟩ e
            exact ⟨A9, c9, h1.ext e, h2⟩
          clear c0 c1 c2
          refine wpIn_region_list_once (G := Fr (ob (.slice CA C.length ccap))) 12 9 [(.is (.slice (some ⟨g, 0, none⟩) N cap)), (.is (.int .i64 j)), (.is (.pointer (some ⟨wr.heap.size, 2, none⟩))), (.is (.slice CA C.length ccap)), (.is (.slice RA q.length rcap)), (.st (fun v w5 => OwnR w5 w3.heap.size v q) hst31), (.is (.int .i64 n)), (.st (fun v w5 => ∃ A9 c9, v = .agg #[.slice A9 q.length c9, .int .i64 n] ∧ OwnR w5 w3.heap.size (.slice A9 q.length c9) q) hst33), (.st (fun v w5 => ∃ p A9 c9, v = .slice (some ⟨p, 0, none⟩) 1 1 ∧ (w3.heap.size ≤ p ∧ (Ob w5 p 56 [.slice A9 q.length c9, .int .i64 n] ∧ OwnR w5 w3.heap.size (.slice A9 q.length c9) q))) hst34), (.st (fun v w5 => ∃ A9 c9, OwnC w5 B v (C ++ [(.slice A9 q.length c9, (q, n))]) ∧ ∀ b ∈ ob v, b ∈ ob (.slice CA C.length ccap) ∨ w3.heap.size ≤ b) hst35), (.is (.pointer (some ⟨g, j * 3, none⟩))), (.is (.pointer (some ⟨g, j * 3 + 2, none⟩)))] (by kernel_rfl) (fun _ _ h => Fr.of_ext h) (fun _ _ _ h k => h.trans k) ?_ (by kernel_rfl) (by kernel_rfl) (by kernel_rfl) (by kernel_rfl) (by kernel_rfl) (by kernel_rfl) (by kernel_rfl) ?_ ?_
          · intro j0 v0 A0 A1 hj0 _ hh hF0
            rcases j0 with _ | _ | _ | _ | _ | _ | _ | _ | _ | _ | _ | _ | j0
            all_goals first | exact hh | exact absurd rfl hj0 | skip
            · exact hfar.out _ _ _ hh hF0
            · obtain ⟨A9, c9, q1, q2⟩ := hh
              exact ⟨A9, c9, q1, hfar.out _ _ _ q2 hF0⟩
            · obtain ⟨p, A9, c9, q1, q2, q3, q4⟩ := hh
              exact ⟨p, A9, c9, q1, q2, q3.fr hF0 (fun hm => by have := hVlt.out p hm; omega), hfar.out _ _ _ q4 hF0⟩
          · refine ⟨?_, ?_, ?_, ?_, ?_, ?_, ?_, ?_, ?_, ?_, ?_, ?_, trivial⟩
            · intro b w' h hE
              have f2 : b.tmps.getD 2 undef = (.pointer (some ⟨b2, 0, none⟩)) := hE 2 (of_decide_eq_true (by kernel_rfl))
              have g2 : b.tmps[2]?.getD undef = (.pointer (some ⟨b2, 0, none⟩)) := by rw [← Array.getD_eq_getD_getElem?]; exact f2
              have c0 := (hb23.out.fr h.ext hn2.out).cell 0 rfl
              exact .inl (good_load (wanted_none rfl) rfl f2 (by simp [go_sem, c0]) rfl)
            · intro b w' h hE
              have f6 : b.tmps.getD 6 undef = (.int .i64 j) := hE 6 (of_decide_eq_true (by kernel_rfl))
              have g6 : b.tmps[6]?.getD undef = (.int .i64 j) := by rw [← Array.getD_eq_getD_getElem?]; exact f6
              exact .inl (good_move (wanted_none rfl) rfl f6)
            · intro b w' h hE
              have f7 : b.tmps.getD 7 undef = (.pointer (some ⟨wr.heap.size, 0, none⟩)) := hE 7 (of_decide_eq_true (by kernel_rfl))
              have g7 : b.tmps[7]?.getD undef = (.pointer (some ⟨wr.heap.size, 0, none⟩)) := by rw [← Array.getD_eq_getD_getElem?]; exact f7
              exact .inl (good_field (wanted_none rfl) rfl f7 (by simp [go_sem]) rfl)
            · intro b w' h hE
              have f28 : b.tmps.getD 28 undef = (.pointer (some ⟨wr.heap.size, 2, none⟩)) := h.dep 2 _ 28 (by kernel_rfl) rfl rfl
              have g28 : b.tmps[28]?.getD undef = (.pointer (some ⟨wr.heap.size, 2, none⟩)) := by rw [← Array.getD_eq_getD_getElem?]; exact f28
              have c0 := (o7w.out.fr h.ext hn7.out).cell 2 rfl
              exact .inl (good_load (wanted_none rfl) rfl f28 (by simp [go_sem, c0]) rfl)
            · intro b w' h hE
              have f4 : b.tmps.getD 4 undef = (.slice RA q.length rcap) := hE 4 (of_decide_eq_true (by kernel_rfl))
              have g4 : b.tmps[4]?.getD undef = (.slice RA q.length rcap) := by rw [← Array.getD_eq_getD_getElem?]; exact f4
              exact .inl (good_move (wanted_none rfl) rfl f4)
            · intro b w' h hE
              have f30 : b.tmps.getD 30 undef = (.slice RA q.length rcap) := h.dep 4 _ 30 (by kernel_rfl) rfl rfl
              have g30 : b.tmps[30]?.getD undef = (.slice RA q.length rcap) := by rw [← Array.getD_eq_getD_getElem?]; exact f30
              refine .inl (good_call (wanted_none rfl) rfl (enters Tryz.func120 (by kernel_rfl) rfl) ?_)
              rw [show (#[.tmp 30] : Array Operand).map b.eval = #[.slice RA q.length rcap] by simp [Act.eval, g30]]
              exact (rowClone_c q _ w' (hrow.out w' h.ext) (by omega)).mono fun e w1 ⟨v1, he, ho, hx⟩ => ⟨v1, he, own_base ho h.ext.size, hx⟩
            · intro b w' h hE
              have f8 : b.tmps.getD 8 undef = (.int .i64 n) := hE 8 (of_decide_eq_true (by kernel_rfl))
              have g8 : b.tmps[8]?.getD undef = (.int .i64 n) := by rw [← Array.getD_eq_getD_getElem?]; exact f8
              exact .inl (good_move (wanted_none rfl) rfl f8)
            · intro b w' h hE
              have f31 : (fun v w5 => OwnR w5 w3.heap.size v q) (b.tmps.getD 31 undef) w' := h.dep 5 _ 31 (by kernel_rfl) rfl rfl
              have f32 : b.tmps.getD 32 undef = (.int .i64 n) := h.dep 6 _ 32 (by kernel_rfl) rfl rfl
              have g32 : b.tmps[32]?.getD undef = (.int .i64 n) := by rw [← Array.getD_eq_getD_getElem?]; exact f32
              obtain ⟨A9, c9, e31⟩ := own_form f31
              have g31 : b.tmps[31]?.getD undef = .slice A9 q.length c9 := by rw [← Array.getD_eq_getD_getElem?]; exact e31
              rw [e31] at f31
              exact .inl (good_run (wanted_none rfl) (v := .agg #[.slice A9 q.length c9, .int .i64 n]) (by simp [execOp, Act.eval, go_sem, g31, g32, Sem.run_bind, Sem.run_pure, Result.andThen_ok]) ⟨A9, c9, rfl, f31⟩)
            · intro b w' h hE
              have f33 : (fun v w5 => ∃ A9 c9, v = .agg #[.slice A9 q.length c9, .int .i64 n] ∧ OwnR w5 w3.heap.size (.slice A9 q.length c9) q) (b.tmps.getD 33 undef) w' := h.dep 7 _ 33 (by kernel_rfl) rfl rfl
              obtain ⟨A9, c9, e33, h33⟩ := f33
              have g33 : b.tmps[33]?.getD undef = .agg #[.slice A9 q.length c9, .int .i64 n] := by rw [← Array.getD_eq_getD_getElem?]; exact e33
              exact .inl (good_grow (w' := w'.alloc (.cells #[.slice A9 q.length c9, .int .i64 n] 56)) (v := .slice (some ⟨w'.heap.size, 0, none⟩) 1 1) (wanted_none rfl) (by simp [execOp, Act.eval, go_sem, g33, Sem.run_bind, Sem.run_pure, Result.andThen_ok]) ⟨_, A9, c9, rfl, h.ext.size, Ob.new w' _ [_, _], own_ext h33 ((Ext.refl _).alloc _)⟩ ((Ext.refl _).alloc _))
            · intro b w' h hE
              have f29 : b.tmps.getD 29 undef = (.slice CA C.length ccap) := h.dep 3 _ 29 (by kernel_rfl) rfl rfl
              have g29 : b.tmps[29]?.getD undef = (.slice CA C.length ccap) := by rw [← Array.getD_eq_getD_getElem?]; exact f29
              have f34 : (fun v w5 => ∃ p A9 c9, v = .slice (some ⟨p, 0, none⟩) 1 1 ∧ (w3.heap.size ≤ p ∧ (Ob w5 p 56 [.slice A9 q.length c9, .int .i64 n] ∧ OwnR w5 w3.heap.size (.slice A9 q.length c9) q))) (b.tmps.getD 34 undef) w' := h.dep 8 _ 34 (by kernel_rfl) rfl rfl
              have hXe := h.early rfl
              obtain ⟨p, A9, c9, e34, hpz, hpo, hpr⟩ := f34
              have e34' := e34
              have hCe := hpm3.out.ext hXe
              have hzx := hXe.size
              obtain ⟨v8, w8, hrun, ho8, hg8, hb8⟩ := run_app (ty := 50) tCp hCe.1 (src_sl Tryz.underlying50 (S := []) (size := 2) (n := 1) (v := .slice (some ⟨p, 0, none⟩) 1 1) (xs := [.slice A9 q.length c9, .int .i64 n]) ⟨_, 1, rfl, Nat.le_refl _, by unfold maxLen; omega, by simp, .inr ⟨p, 0, rfl, by simp, fun j u hu => by rw [Nat.zero_add]; exact hpo.cell j hu⟩⟩ (by intro u hu; simp only [List.mem_cons, List.not_mem_nil, or_false] at hu; rcases hu with rfl | rfl <;> rfl) (by omega)) (by unfold maxLen; omega) (by omega) (by omega)
              refine .inr ⟨rfl, wanted_none rfl, ?_⟩
              unfold Oper.wp execOp
              simp only [resolve, invoke, builtin, Sem.run_bind, Sem.run_pure, Result.andThen_ok, List.map_toArray, List.map_cons, List.map_nil, Act.eval, f29, e34, hrun]
              refine ⟨v8, rfl, ⟨A9, c9, OwnC.app (cs := []) (cap := 0) (u := undef) (c := (.slice A9 q.length c9, (q, n))) hCe (fr_grown hg8) ho8 (own_base hpr (Nat.zero_le _)), fun b hb => ?_⟩, fr_grown hg8⟩
              rcases hb8 with h8 | h8
              · exact .inl (by unfold ob; rw [← h8]; exact hb)
              · refine .inr ?_; have := Option.mem_toList.1 hb; rw [h8] at this; have := Option.some.inj this; omega
            · intro b w' h hE
              have f26 : b.tmps.getD 26 undef = (.slice (some ⟨g, 0, none⟩) N cap) := h.dep 0 _ 26 (by kernel_rfl) rfl rfl
              have g26 : b.tmps[26]?.getD undef = (.slice (some ⟨g, 0, none⟩) N cap) := by rw [← Array.getD_eq_getD_getElem?]; exact f26
              have f27 : b.tmps.getD 27 undef = (.int .i64 j) := h.dep 1 _ 27 (by kernel_rfl) rfl rfl
              have g27 : b.tmps[27]?.getD undef = (.int .i64 j) := by rw [← Array.getD_eq_getD_getElem?]; exact f27
              exact .inl (good_index (wanted_none rfl) rfl f26 f27 (by simp [go_sem, hltI]) rfl)
            · intro b w' h hE
              have f36 : b.tmps.getD 36 undef = (.pointer (some ⟨g, j * 3, none⟩)) := h.dep 10 _ 36 (by kernel_rfl) rfl rfl
              have g36 : b.tmps[36]?.getD undef = (.pointer (some ⟨g, j * 3, none⟩)) := by rw [← Array.getD_eq_getD_getElem?]; exact f36
              exact .inl (good_field (wanted_none rfl) rfl f36 (by simp [go_sem]) rfl)
          · intro b w8 hF8 hd hz8 he8 hf8
            have f35 : (fun v w5 => ∃ A9 c9, OwnC w5 B v (C ++ [(.slice A9 q.length c9, (q, n))]) ∧ ∀ b ∈ ob v, b ∈ ob (.slice CA C.length ccap) ∨ w3.heap.size ≤ b) (b.tmps.getD 35 undef) w8 := hf8 9 _ 35 (by omega) rfl rfl
            have f37 : b.tmps.getD 37 undef = (.pointer (some ⟨g, j * 3 + 2, none⟩)) := hf8 11 _ 37 (by omega) rfl rfl
            have e := frame_puts hd hz8 he8
            obtain ⟨X, hXx⟩ : ∃ X : Nat → Value, ∀ d, b.tmps.getD d undef = X d := ⟨_, fun _ => rfl⟩
            rw [hXx] at f35 f37
            obtain ⟨A9, c9, hC9, hb9⟩ := f35
            obtain ⟨A8, c8, q35⟩ := hC9.form
            rw [show dstsOf _ = [26, 27, 28, 29, 30, 31, 32, 33, 34, 35, 36, 37] from rfl] at e
            simp only [List.foldl_cons, List.foldl_nil, hXx, Act.put, List.setIfInBounds_toArray, List.set_cons_succ, List.set_cons_zero] at e
            rw [f37, q35] at e
            rw [q35] at hC9 hb9
            clear hf8 he8 hz8 hd hXx f37 q35
            subst e
            simp only [List.drop_succ_cons, List.drop_zero]
            have hPr := OwnP.row hO3.out hD2.out.1 hp'.out hF8 hC9 hb9
            have hgn : g ∉ ob (Value.slice CA C.length ccap) := fun hm => own_far hpm3.out.1 hO3.out.1 (by decide) g hm (Option.mem_toList.2 rfl)
            obtain ⟨ds, dq, hdg⟩ : ∃ ds d, w8.heap[g]? = some (.cells ds 52 d) := own_kind (own_away hO3.out.1 hF8 (own_far hpm3.out.1 hO3.out.1 (by decide))) (Option.mem_toList.2 rfl)
            have own8 := own_away hO3.out.1 hF8 (own_far hpm3.out.1 hO3.out.1 (by decide))
            have hP2l : P2.length = N := by have := congrArg List.length hD2.out.2.1; rw [List.length_map, List.length_map] at this; omega
            have kq := World.ownsRow.cellAt (by rw [hP2l] at own8; exact own8) (j * 3 + 2) (by omega)
            have kf := World.ownsRow.frozenAt (by rw [hP2l] at own8; exact own8) (j * 3 + 2)
            rw [pt_get P2 j _ hp'.out 2 _ rfl] at kq
            have hgl8 : g < w8.heap.size := lt_of_block hdg
            haveI : In g w8 := ⟨hgl8⟩
            replace hPr := hide hPr
            have hF8' := hide hF8
            have hb9' := hide hb9
            replace kq := hide kq
            replace hC9 := hide hC9
            have kq2 := kq.out
            clear hF8 hb9
            go_wp2_with fail
            simp only [onlyN]
            gi_wp2_with fail
            have hF9 : Fr [g] w8 (w8.setCell ⟨g, j * 3 + 2, none⟩ (.slice A8 (C.length + 1) c8)) := (Fr.refl [g] w8).setCell ⟨g, j * 3 + 2, none⟩ _ (.inl (by simp))
            have hobC : ∀ y ∈ ob (Value.slice CA C.length ccap), w1.heap.size ≤ y := fun y hy => hD2.out.2.2 _ (List.mem_of_getElem? hp'.out) y hy
            have hw13 : w1.heap.size ≤ w3.heap.size := by have := hTh.out.size; omega
            have hz8 := hF8'.out.size
            have hgw : g < w1.heap.size := by have := (ob_ge hP'.out.1 g (Option.mem_toList.2 rfl)).2; omega
            have hX9 : Ext w0 (w8.setCell ⟨g, j * 3 + 2, none⟩ (.slice A8 (C.length + 1) c8)) := (ext_fr (hX2.out.trans hX3.out) hF8'.out (fun y hy => by have := hobC y hy; omega)).setCell (p := ⟨g, j * 3 + 2, none⟩) (by show w0.heap.size ≤ g; omega) _
            have hT3 := hTh.out.ext (by have := hTh.out.size; omega) hX3.out
            have hT8 := hT3.fr hF8'.out (by omega) (fun y hy => ⟨.inl (hobC y hy), .inl (ob_objS hpm3.out.1 y hy), fun _ T us hT ho => by obtain ⟨es, eq, he⟩ := hkc.out y hy; exact no_kind ho hT es eq he⟩)
            have hT9 := hT8.fr hF9 (by omega) (fun y hy => by
              rw [List.mem_singleton] at hy
              subst hy
              exact ⟨.inr (Option.mem_toList.2 rfl), .inr hgw, fun h => by omega⟩)
            have hk8 : ∀ y ∈ [g], ∃ ds d, w8.heap[y]? = some (.cells ds 52 d) := fun y hy => by rw [List.mem_singleton] at hy; subst hy; exact ⟨ds, dq, hdg⟩
            have hrf9 : OwnR (w8.setCell ⟨g, j * 3 + 2, none⟩ (.slice A8 (C.length + 1) c8)) 0 (.slice RA q.length rcap) q := own_away (own_away hr3.out hF8'.out (own_far hpm3.out.1 hr3.out (by decide))) hF9 (fun y hy hm => by
              obtain ⟨es, ee, he⟩ := hk8 y hy
              obtain ⟨fs, fe, hf⟩ := own_kind (own_away hr3.out hF8'.out (own_far hpm3.out.1 hr3.out (by decide))) hm
              rw [he] at hf
              cases hf)
            have hjf9 : OwnJ (w8.setCell ⟨g, j * 3 + 2, none⟩ (.slice A8 (C.length + 1) c8)) 0 (.slice JA J.length jcap) J := own_away (own_away hf3.out hF8'.out (own_far hpm3.out.1 hf3.out (by decide))) hF9 (fun y hy hm => by
              obtain ⟨es, ee, he⟩ := hk8 y hy
              obtain ⟨fs, fe, hf⟩ := own_kind (own_away hf3.out hF8'.out (own_far hpm3.out.1 hf3.out (by decide))) hm
              rw [he] at hf
              cases hf)
            have hb29 : Ob (w8.setCell ⟨g, j * 3 + 2, none⟩ (.slice A8 (C.length + 1) c8)) b2 34 [.slice (some ⟨g, 0, none⟩) N cap] := (hb23.out.fr hF8'.out hn2.out).fr hF9 (fun hm => by
              obtain ⟨es, ee, he⟩ := hk8 _ hm
              have h := hb23.out.fr hF8'.out hn2.out
              unfold Ob at h
              rw [h] at he
              cases he)
            gi_roundg (N - (j + 1))
            case measure => omega
            case rel =>
              have hjl := (List.getElem?_eq_some_iff.1 hp'.out).1
              have hje := (List.getElem?_eq_some_iff.1 hp'.out).2
              have hl9 : (C ++ [(Value.slice A9 q.length c9, (q, n))]).length = C.length + 1 := by simp
              have hPr2 := hPr.out
              rw [hl9] at hPr2
              refine ⟨j + 1, _, by go_num, by omega, hPr2.1, ⟨hPr2.2, ?_, fun p hp b hb => ?_⟩, fun i p hpi => ?_, hb29, hT9, hX9, hrf9, hjf9⟩
              · rw [List.map_set, ← hD2.out.2.1]
                refine List.ext_getElem? fun i => ?_
                by_cases hij : i = j
                · subst hij
                  rw [List.getElem?_set_self (by simpa using hjl), List.getElem?_map, hp'.out]
                  rfl
                · rw [List.getElem?_set_ne (Ne.symm hij)]
              · rcases List.mem_or_eq_of_mem_set hp with hp | hp
                · exact hD2.out.2.2 p hp b hb
                · rw [hp] at hb
                  rcases hb9'.out b (by rw [hl9]; exact hb) with h | h
                  · exact hobC b h
                  · omega
              · by_cases hij : i = j
                · subst hij
                  rw [List.getElem?_set_self hjl] at hpi
                  obtain rfl := Option.some.inj hpi
                  rw [if_pos (by omega)]
                  show cps (C ++ [_]) = _
                  rw [show cps (C ++ [(Value.slice A9 q.length c9, (q, n))]) = cps C ++ [(q, n)] by simp [cps], hnx.out, if_pos (by rw [← hn.out]; exact hpos), hcpj'.out, hn.out]
                · rw [List.getElem?_set_ne (Ne.symm hij)] at hpi
                  have := hcp2.out i p hpi
                  by_cases h5 : i < j
                  · rw [if_pos h5] at this; rw [if_pos (by omega)]; exact this
                  · rw [if_neg h5] at this; rw [if_neg (by omega)]; exact this
        · gi_wp2_with (gi_at_call 139; refine (in_round hbe.out).mono ?_; rintro ee w3 ⟨rfl, hY⟩; have o73 := hide (o7.out.ext hY); have c0 := o73.out.cell 0 rfl; have c1 := o73.out.cell 1 rfl; have c2 := o73.out.cell 2 rfl; have l7 := o73.out.lt; rw [hb7.out] at c0 c1 c2 l7; (haveI : In wr.heap.size w3 := ⟨l7⟩); have hX3 := hide (hXp.out.trans hY); clear hY)
          gi_roundg (N - (j + 1))
          case measure => omega
          case rel => exact ⟨j + 1, P2, by go_num, by omega, hO2.out.ext hX3.out, hD2.out, fun i p hpi => (by
            by_cases hij : i = j
            · subst hij
              rw [hp'.out] at hpi
              obtain rfl := Option.some.inj hpi
              rw [if_pos (by omega), hnx.out, if_neg (by rw [← hn.out]; omega), List.append_nil]
              exact hcpj'.out
            · have := hcp2.out i p hpi
              by_cases h5 : i < j
              · rw [if_pos h5] at this; rw [if_pos (by omega)]; exact this
              · rw [if_neg h5] at this; rw [if_neg (by omega)]; exact this), hb22.out.ext hX3.out, hTh.out.ext (by have := hTh.out.size; omega) hX3.out, hX2.out.trans hX3.out, own_ext hrf.out.1 hX3.out, own_ext hrf.out.2 hX3.out⟩
      · have hjN : j = N := by omega
        gi_wp2
        exact ⟨hTh.out.1, hTh.out.2.1, ⟨⟨P2, hO2.out, hD2.out.1, hD2.out.2.1.trans hsp'.out, fun p hp => (by
          obtain ⟨i, hi⟩ := List.getElem?_of_mem hp
          have hil := (List.getElem?_eq_some_iff.1 hi).1
          have hl2 : P2.length = N := by have := congrArg List.length hD2.out.2.1; rw [List.length_map, List.length_map] at this; omega
          have := hcp2.out i p hi
          rw [if_pos (by omega)] at this
          exact this), hD2.out.2.2⟩, hb22.out, hX2.out, Nat.le_trans hz hTh.out.size⟩, hTh.out.2.2⟩
end Go.Proofs.YtljkneajdndgjaaGreat
