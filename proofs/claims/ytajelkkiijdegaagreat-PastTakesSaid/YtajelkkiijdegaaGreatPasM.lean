/-
  A helper of ours: no claim of its own. Layer 14 (past): a message taken.
-/
import Derived.Test.YtajelkkiijdegaaGreatPasL
set_option linter.unusedVariables false
set_option linter.unusedSimpArgs false
namespace Go.Proofs.YtajelkkiijdegaaGreat
open Go.RowKit
attribute [local go_sem] GW.cell GW.frozen In.eq_true In.le_true In.ne In.ne' In.ne_add In.ne_add' In.lt_add Upto.le_true Upto.le_add Upto.lt_add
theorem gist_len (o : Option Pb) (c : Int) : (gistP o c).length ≤ 2 := by cases o <;> simp [gistP, bgP]
theorem resI_zero {K : Int} {ins fit : Bool} {E : Int} {cnt : Nat} (h : resI K ins fit E cnt = 0) : E = 0 := by
  unfold resI at h
  by_cases hK : K = 0
  · rw [if_pos hK] at h
    split at h
    · cases h
    · by_cases hE : E = 0
      · exact hE
      · rw [if_neg hE] at h; exact h
  · rw [if_neg hK] at h; exact absurd h hK
/-- What is set, by the change. -/
theorem set_nx {L : List Pb} {s : StD} (h : PInv L s) (m : PM) (h0 : chkD s m = 0) (h3 : m.1.1 ≠ 3) (b : Nat) (v : Value) :
    (if s.1 < (chP L m).2.2.2.2 then insP (delP L m.1.2.1) (((m.1.2.1, match atP L m.1.2.1 with | some p => pSer p | none => s.2.length + 1), (chP L m).2.1, ((chP L m).2.2.2.1, (chP L m).2.2.2.2)), b, v) else delP L m.1.2.1) = nxP L s m b v
    ∧ max (s.2.length : Int) ((match atP L m.1.2.1 with | some p => pSer p | none => s.2.length + 1 : Nat) : Int) = ((tk s m).1.2.length : Int) ∧ (tk s m).1.1 = s.1 := by
  have hk := h.kn m.1.2.1
  rw [h.chk] at h0
  obtain ⟨z1, z2, z3, z4⟩ := chkO_zero h0
  unfold nxP tk chP
  simp only [if_neg h3]
  by_cases h1 : m.1.1 = 1
  · have hn : atP L m.1.2.1 = none := by simpa [knP] using z4 h1
    have hno := atP_none hn
    have hdl : delP L m.1.2.1 = L := List.filter_eq_self.2 fun y hy => by have := hno y hy; simp [kentP, same_key, this]
    unfold mkM at z1
    rw [h1] at z1
    have hb := mchk_one z1
    have hc := z3 (by omega)
    simp only [if_pos h1, hn, hdl]
    rw [if_pos (by omega)]
    refine ⟨by first | rfl | trivial, ?_, by first | rfl | trivial⟩
    rw [List.length_append, List.length_singleton]
    omega
  · simp only [if_neg h1]
    cases hp : atP L m.1.2.1 with
    | none =>
      exfalso
      unfold mkM at z1
      rcases mchk_kind z1 with e | e | e
      · exact h1 e
      · obtain ⟨_, he, -⟩ := z2 e; rw [hp] at he; cases he
      · exact h3 e
    | some p =>
      rw [hp] at hk
      obtain ⟨k1, k2, k3⟩ := h.known p (atP_some hp).1
      have hlt := (List.getElem?_eq_some_iff.1 k3).1
      rw [hk]
      simp only [Option.map_some]
      refine ⟨by first | rfl | trivial, ?_, by first | rfl | trivial⟩
      rw [List.length_set]
      omega
theorem len_nx {L : List Pb} {s : StD} {m : PM} {b : Nat} {v : Value} : (nxP L s m b v).length ≤ L.length + 1 := by
  have hi : ∀ (M : List Pb) (x : Pb), (insP M x).length = M.length + 1 := fun M x => by
    unfold insP
    rw [List.length_append, List.length_cons, List.length_take, List.length_drop]
    have := ld_le (fun y => befB y x) M
    unfold plN
    omega
  have hd : ∀ id, (delP L id).length ≤ L.length := fun id => List.length_filter_le _ _
  unfold nxP
  split
  · rw [List.length_drop]; omega
  · split
    · rw [hi]; omega
    · split
      · omega
      · split
        · rw [hi]; have := hd m.1.2.1; omega
        · have := hd m.1.2.1; omega
theorem row_nx {L : List Pb} {s : StD} {m : PM} {b : Nat} {v : Value} {y : Pb} (h : y ∈ nxP L s m b v) : y.1.2.1 = m.2 ∨ ∃ z ∈ L, y.1.2.1 = z.1.2.1 := by
  unfold nxP at h
  split at h
  · exact .inr ⟨y, List.mem_of_mem_drop h, rfl⟩
  · split at h
    · rcases mem_insP.1 h with rfl | h
      · exact .inl rfl
      · exact .inr ⟨y, h, rfl⟩
    · split at h
      · exact .inr ⟨y, h, rfl⟩
      · rename_i p hp
        split at h
        · rcases mem_insP.1 h with rfl | h
          · exact .inr ⟨p, (atP_some hp).1, rfl⟩
          · exact .inr ⟨y, (mem_delP.1 h).1, rfl⟩
        · exact .inr ⟨y, (mem_delP.1 h).1, rfl⟩
section
variable {base p : Nat} {sc : List Cl} {c ser : Int} {mb n : Nat} {L : List Pb}
/-- A store into an object that is not the past's. -/
theorem pz_set {w w' : World} {bc : Nat} {T : TypeId} {vs : List Value} (h : Pz w base p sc c ser mb n L) (o : Ob w bc T vs) (hF : Fr [bc] w w') (h1 : T ≠ 93) (h2 : T ≠ 103) (h3 : T ≠ 109) (h4 : T ≠ 87) (h5 : T ≠ 83) : Pz w' base p sc c ser mb n L := by
  obtain ⟨⟨sv, u, hP, hC⟩, hM, hR⟩ := h
  refine ⟨⟨sv, u, ⟨hP.ob.fr hF (by simp; exact fun e => Ob.ne o hP.ob h1 e.symm), own_stay hP.own hF (by intro b hb; rw [List.mem_singleton.1 hb]; exact o.nt h2), fun y hy => Ob.fr (hP.evs y hy) hF (by simp; exact fun e => Ob.ne o (hP.evs y hy) h3 e.symm)⟩, own_stay hC hF (by intro b hb; rw [List.mem_singleton.1 hb]; exact o.nt h4)⟩, pmv_fr hM hF (by simp; exact fun e => mv_ob hM o e.symm), fun y hy => (hR y hy).stay hF (by intro b hb; rw [List.mem_singleton.1 hb]; exact o.nt h5)⟩
end
/-- What a message's change is. -/
def chT (L : List Pb) (s : StD) (m : PM) (R : Int) : Ch := if R = 0 ∧ m.1.1 ≠ 3 then (tk s m).2 else zCh
theorem kq_fresh {p mb : Nat} {w w1 w2 : World} {bc : Nat} (h : Kq p mb w w1) (hF : Fr [bc] w1 w2) (hb : w.heap.size ≤ bc) (hp : p < w.heap.size) : Kq p mb w w2 := ⟨fun C T vs o h1 h2 => by
  have := o.lt
  exact (h.typ C T vs o h1 h2).fr hF (by simp; omega), fun b obj hx hn => by
  have := lt_of_block hx
  have h1 := h.blk b obj hx hn
  exact (hF.block b (lt_of_block h1) (by simp; omega)).trans h1, fun b hx => by
  rw [usl_same (hF.block p (Nat.lt_of_lt_of_le hp h.size) (by simp; omega))] at hx
  exact h.own b hx, Nat.le_trans h.size hF.size⟩
theorem pz_more {w : World} {base p mb n : Nat} {sc : List Cl} {c ser : Int} {L : List Pb} (h : Pz w base p sc c ser mb n L) : Pz w base p sc c ser mb (n + 1) L := ⟨h.st, Mv.more h.map (Nat.le_succ n), h.rows⟩
def serP (o : Option Pb) (n : Nat) : Nat := match o with | some p => pSer p | none => n + 1
section
variable {base p mb n : Nat} {sc : List Cl} {L : List Pb} {s : StD} {T : List Ke}
set_option maxHeartbeats 16000000 in
set_option maxRecDepth 100000 in
theorem ptake_c (k i f t : Int) (r : List Vl) (rv : Value) (w : World) (h : Pz w base p sc s.1 s.2.length mb n L) (hI : PInv L s) (hT : InvF T s) (hin : inM ((k, i, f, t), r)) (hnum : ∀ y ∈ L, ∀ a ∈ y.1.2.1, inI a.2.1) (hL : L.length ≤ 8000) (hrv : Rw w [] rv r) (hbw : base ≤ w.heap.size) (hbm : base ≤ mb) (hbp : base ≤ p) (hnM : n < maxLen) (hsl : s.2.length ≤ 1000000) :
    Calls Tryz.prog 10 #[.pointer (some ⟨p, 0, none⟩), mg k i f t rv] w fun e w' => ∃ cv R, R = resI (mkM ((k, i, f, t), r)) (decide (k = 1)) (fitsS sc r) (chkD s ((k, i, f, t), r)) L.length ∧ e = .returned (.tuple #[.agg (chO cv (chT L s ((k, i, f, t), r) R)).toArray, .int .i64 R]) ∧ RwO w' cv (chT L s ((k, i, f, t), r) R).2.1
      ∧ (R ≠ 0 → Pz w' base p sc s.1 s.2.length mb n L) ∧ (R = 0 → ∃ b v, Pz w' base p sc (tk s ((k, i, f, t), r)).1.1 (tk s ((k, i, f, t), r)).1.2.length mb (n + 1) (nxP L s ((k, i, f, t), r) b v)) ∧ Kq p mb w w' ∧ Below base w w' := by
  obtain ⟨QA, qc, hqv⟩ := rw_val hrv
  subst hqv
  obtain ⟨m, hm⟩ : ∃ m : PM, m = ((k, i, f, t), r) := ⟨_, rfl⟩
  rw [← hm]
  obtain ⟨W0, hW0⟩ : ∃ W0, W0 = (w.alloc (mO k i f t (.slice QA r.length qc))).alloc (.cells #[.int .i64 0, .slice none 0 0, .int .i64 0, .int .i64 0, .int .i64 0, .int .i64 0] 39) := ⟨_, rfl⟩
  have hX0 : Ext w W0 := by rw [hW0]; exact ((Ext.refl w).alloc _).alloc _
  have hplt : p < w.heap.size := by obtain ⟨⟨sv, u, hP, -⟩, -⟩ := h; exact hP.ob.lt
  obtain ⟨bt, hbt⟩ : ∃ bt, bt = w.heap.size := ⟨_, rfl⟩
  obtain ⟨bc, hbc⟩ : ∃ bc, bc = w.heap.size + 1 := ⟨_, rfl⟩
  have hOt : Hid (Ob W0 bt 44 [.int .i64 k, .int .i64 i, .int .i64 f, .int .i64 t, .slice QA r.length qc]) := by show Ob _ _ _ _; rw [hW0, hbt]; exact (Ob.new w _ [_, _, _, _, _]).ext ((Ext.refl _).alloc _)
  have hOc : Hid (Ob W0 bc 39 [.int .i64 0, .slice none 0 0, .int .i64 0, .int .i64 0, .int .i64 0, .int .i64 0]) := by
    show Ob _ _ _ _
    rw [hW0, hbc, show w.heap.size + 1 = (w.alloc (mO k i f t (.slice QA r.length qc))).heap.size by simp]
    exact Ob.new _ _ [_, _, _, _, _, _]
  have hbc0 : w.heap.size ≤ bc := by omega
  have hz0 := h.ext hX0
  have hgist := hide (fun w' (hX : Ext W0 w') => pgist_c i hin.1.2.1 w' (hz0.ext hX) (fun y hy => by
    obtain ⟨k1, k2, k3⟩ := hI.known y hy
    exact mayR8 (hT.evs _ (List.mem_of_getElem? k3)).2.2.2.1))
  have hgin : ∀ q ∈ gistP (atP L i) s.1, inM q := by
    have hc0 := hT.c0
    intro q hq
    unfold gistP at hq
    rcases List.mem_append.1 hq with hq | hq
    · cases hp : atP L i with
      | none => rw [hp] at hq; simp [bgP] at hq
      | some y =>
        rw [hp] at hq
        obtain rfl : q = ((1, pId y, y.1.2.2.1, y.1.2.2.2), y.1.2.1) := by simpa [bgP] using hq
        have hy := (atP_some hp).1
        obtain ⟨k1, k2, k3⟩ := hI.known y hy
        obtain ⟨w1, w2, w3, w4, w5, w6⟩ := hT.evs _ (List.mem_of_getElem? k3)
        have a1 : 0 ≤ y.1.2.2.1 := w1
        have a2 : y.1.2.2.1 < y.1.2.2.2 := w2
        have a3 : y.1.2.2.2 ≤ 1125899906842624 := w3
        have a5 : 1 ≤ pId y := w5
        have a6 : pId y ≤ 1099511627776 := w6
        refine ⟨(show inI 1 ∧ inI (pId y) ∧ inI y.1.2.2.1 ∧ inI y.1.2.2.2 by unfold inI; omega), hnum y hy⟩
    · rw [List.mem_singleton.1 hq]
      exact ⟨(show inI 3 ∧ inI 0 ∧ inI s.1 ∧ inI 0 by unfold inI; omega), by simp⟩
  have hgin2 : ∀ G : List Vm, pms G = gistP (atP L i) s.1 → ∀ q ∈ G ++ [((.slice QA r.length qc : Value), m)], inM q.2 := fun G hG q hq => by
    rcases List.mem_append.1 hq with hq | hq
    · exact hgin _ (by rw [← hG]; exact List.mem_map_of_mem hq)
    · rw [List.mem_singleton.1 hq, hm]; exact hin
  have hgl : ∀ G : List Vm, pms G = gistP (atP L i) s.1 → G.length ≤ 2 := fun G hG => by
    have h1 := congrArg List.length hG; have h2 := gist_len (atP L i) s.1; simp only [pms, List.length_map] at h1; omega
  obtain ⟨R, hR⟩ : ∃ R, R = resI (mkM m) (decide (k = 1)) (fitsS sc r) (chkD s m) L.length := ⟨_, rfl⟩
  have hmi : m.1.2.1 = i := by rw [hm]
  have hmk : m.1.1 = k := by rw [hm]
  have hrun := gist_run hI hT i
  have hch := gist_chk hI m
  rw [hmi] at hch
  have hres := hide (fun (G : List Vm) (v5 : Value) (w5 : World) (hX : Ext W0 w5) (hM : Mw w5 [] v5 (G ++ [((.slice QA r.length qc : Value), m)])) (hG : pms G = gistP (atP L i) s.1) => by
    have h1 := presult_c (base := base) (p := p) (sc := sc) (c := s.1) (ser := s.2.length) (mb := mb) (n := n) (L := L) G ((.slice QA r.length qc), m) v5 w5 (hz0.ext hX) hM (hgin2 G hG) (by have := hgl G hG; omega) (chkD s m) (by
      rw [show pms (G ++ [((.slice QA r.length qc : Value), m)]) = gistP (atP L i) s.1 ++ [m] by rw [← hG]; simp [pms], runE_last hrun m, hch]) (by omega)
    rw [show resI (mkM ((.slice QA r.length qc : Value), m).2) (decide (((.slice QA r.length qc : Value), m).2.1.1 = 1)) (fitsS sc ((.slice QA r.length qc : Value), m).2.2) (chkD s m) L.length = R by rw [hR]; simp only [hm]] at h1
    exact h1)
  obtain ⟨B0, hB0⟩ : ∃ B0, B0 = W0.heap.size := ⟨_, rfl⟩
  replace hB0 := hide hB0
  have hB0le := hide (Nat.le_refl W0.heap.size)
  have hmw : Hid (∀ (w2 : World) (v4 : Value) (G : List Vm) (v5 : Value) (w5 : World), OwnM w2 B0 v4 G → w5.ownsRow B0 44 5 v5 (G.length + 1) ((G.flatMap fun p => mc1 (p.1, p.2)) ++ [.int .i64 k, .int .i64 i, .int .i64 f, .int .i64 t, .slice QA r.length qc]) → w2.grownBy w5 v4.ownBlock → Ext W0 w5 → Mw w5 [] v5 (G ++ [((.slice QA r.length qc : Value), m)])) := by
    show ∀ _ _ _ _ _, _ → _ → _ → _ → _
    intro w2 v4 G v5 w5 hG ho hg hX
    have e1 : mc (G ++ [((.slice QA r.length qc : Value), m)]) = (G.flatMap fun p => mc1 (p.1, p.2)) ++ [.int .i64 k, .int .i64 i, .int .i64 f, .int .i64 t, .slice QA r.length qc] := by
      unfold mc
      rw [List.flatMap_append, hm]
      rfl
    refine ⟨by rw [e1, List.length_append]; exact Sl.own ho (by simp), fun q hq => ?_⟩
    rcases List.mem_append.1 hq with hq | hq
    · exact ((hG.2 q hq).stay (fr_grown hg) (own_nt hG.1 (by decide))).rw
    · rw [List.mem_singleton.1 hq, hm]; exact Sl.ext hrv (hX0.trans hX)
  rw [← hR]
  have hbth := hide hbt
  have hbch := hide hbc
  have hW0h := hide hW0
  have hz0h := hide hz0
  have hX0h := hide hX0
  have hbw0 : base ≤ W0.heap.size := by have := hX0.size; omega
  have hB00 : Hid (Below base w W0) := Below.mono hX0 hbw
  have b0 := hide (hOt.out.cell 0 rfl)
  have b1 := hide (hOt.out.cell 1 rfl)
  have b2 := hide (hOt.out.cell 2 rfl)
  have b3 := hide (hOt.out.cell 3 rfl)
  have b4 := hide (hOt.out.cell 4 rfl)
  have hpp := hide hz0
  replace hR := hide hR
  have hidL : ∀ y ∈ L, inI (pId y) := fun y hy => by
    obtain ⟨k1, k2, k3⟩ := hI.known y hy
    obtain ⟨w1, w2, w3, w4, w5, w6⟩ := hT.evs _ (List.mem_of_getElem? k3)
    have a5 : 1 ≤ pId y := w5
    have a6 : pId y ≤ 1099511627776 := w6
    unfold inI; omega
  by_cases hR0 : R = 0
  · subst hR0
    have hE0 : chkD s m = 0 := resI_zero hR.out.symm
    by_cases hk : k = 3
    · subst hk
      have hpass := hide (fun w' (hX : Ext W0 w') => ppass_c f w' (hz0.ext hX) hI.srt hI.ids hidL (by omega) (by have := hX.size; omega) hbm hbp)
      have htk : Hid ((tk s m).1 = (f, s.2)) := by
        show (tk s m).1 = (f, s.2)
        rw [hm]; unfold tk; rw [if_pos rfl]
      have hnx : Hid (∀ b v, nxP L s m b v = L.drop (ldN (fun y => decide (pTo y ≤ f)) L)) := by
        show ∀ _ _, _
        intro b v
        rw [hm]; unfold nxP; rw [if_pos rfl]
      have ez : Hid (chT L s m 0 = zCh) := by
        show chT L s m 0 = zCh
        exact if_neg (fun e => e.2 (by rw [hm]))
      clear h hI hT hin hnum hrv hW0 hX0 hz0 hgin hgin2 hbt hbc hrun hch hmk hmi hidL hE0
      replace hm := hide hm
      replace hgl := hide hgl
      haveI : In bt W0 := ⟨hOt.out.lt⟩
      haveI : In bc W0 := ⟨hOc.out.lt⟩
      go_enter Tryz.func10, Tryz.ntmps10
      go_wp2_with fail
      rw [← hbch.out, ← hbth.out, ← hW0h.out]
      refine wp_region_list_tail 6 [(.is ((.pointer (some ⟨p, 0, none⟩)))), (.is ((.pointer (some ⟨bt, 1, none⟩)))), (.is ((.int .i64 i))), (.st (fun v w => ∃ G, OwnM w B0 v G ∧ pms G = gistP (atP L i) s.1) (fun v w w' ⟨G, h1, h2⟩ k => ⟨G, h1.ext k, h2⟩)), (.is ((mg 3 i f t (.slice QA r.length qc)))), (.st (fun v w => ∃ xb, v = .slice (some ⟨xb, 0, none⟩) 1 1 ∧ Ob w xb 44 [.int .i64 3, .int .i64 i, .int .i64 f, .int .i64 t, .slice QA r.length qc]) (fun v w w' ⟨xb, h1, h2⟩ k => ⟨xb, h1, h2.ext k⟩))] (by kernel_rfl) (by kernel_rfl) (by kernel_rfl) (by kernel_rfl) (by kernel_rfl) (by kernel_rfl) (by kernel_rfl) ?_ ?_
      · refine ⟨?_, ?_, ?_, ?_, ?_, ?_, trivial⟩
        · intro b w' h hE
          have f0 : b.tmps.getD 0 undef = (.pointer (some ⟨p, 0, none⟩)) := hE 0 (of_decide_eq_true (by kernel_rfl))
          exact good_move (wanted_none rfl) rfl f0
        · intro b w' h hE
          have f3 : b.tmps.getD 3 undef = (.pointer (some ⟨bt, 0, none⟩)) := hE 3 (of_decide_eq_true (by kernel_rfl))
          exact good_field (wanted_none rfl) rfl f3 (by simp [go_sem]) rfl
        · intro b w' h hE
          have f13 : b.tmps.getD 13 undef = (.pointer (some ⟨bt, 1, none⟩)) := h.dep 1 _ 13 (by kernel_rfl) rfl rfl
          have c0 := cell_later h.ext b1.out
          exact good_load (wanted_none rfl) rfl f13 (by simp [go_sem, c0]) rfl
        · intro b w' h hE
          have f12 : b.tmps.getD 12 undef = (.pointer (some ⟨p, 0, none⟩)) := h.dep 0 _ 12 (by kernel_rfl) rfl rfl
          have g12 : b.tmps[12]?.getD undef = (.pointer (some ⟨p, 0, none⟩)) := by rw [← Array.getD_eq_getD_getElem?]; exact f12
          have f14 : b.tmps.getD 14 undef = (.int .i64 i) := h.dep 2 _ 14 (by kernel_rfl) rfl rfl
          have g14 : b.tmps[14]?.getD undef = (.int .i64 i) := by rw [← Array.getD_eq_getD_getElem?]; exact f14
          refine good_call (wanted_none rfl) rfl (enters Tryz.func39 (by kernel_rfl) rfl) ?_
          rw [show (#[.tmp 12, .tmp 14] : Array Operand).map b.eval = #[.pointer (some ⟨p, 0, none⟩), .int .i64 i] by simp [Act.eval, g12, g14]]
          exact (hgist.out w' h.ext).mono fun e w1 ⟨v1, G1, he, h1, h2, h3⟩ => ⟨v1, he, ⟨G1, ⟨own_base h1.1 (by have := h.ext.size; rw [hB0.out]; exact Nat.le_trans hB0le.out this), h1.2⟩, h2⟩, h3⟩
        · intro b w' h hE
          have f3 : b.tmps.getD 3 undef = (.pointer (some ⟨bt, 0, none⟩)) := hE 3 (of_decide_eq_true (by kernel_rfl))
          have c0 := cell_later h.ext b0.out
          have c1 := cell_later h.ext b1.out
          have c2 := cell_later h.ext b2.out
          have c3 := cell_later h.ext b3.out
          have c4 := cell_later h.ext b4.out
          exact good_load (wanted_none rfl) rfl f3 (by simp [go_sem, c0, c1, c2, c3, c4]) rfl
        · intro b w' h hE
          have f16 : b.tmps.getD 16 undef = (mg 3 i f t (.slice QA r.length qc)) := h.dep 4 _ 16 (by kernel_rfl) rfl rfl
          have g16 : b.tmps[16]?.getD undef = (mg 3 i f t (.slice QA r.length qc)) := by rw [← Array.getD_eq_getD_getElem?]; exact f16
          have hb1 : (Instr.buildSlice 24 1 #[(0, mg 3 i f t (.slice QA r.length qc))]).run Tryz.prog w' = .ok (.slice (some ⟨w'.heap.size, 0, none⟩) 1 1) (w'.alloc (mO 3 i f t (.slice QA r.length qc))) := by simp [go_sem]
          refine good_grow (w' := w'.alloc (mO 3 i f t (.slice QA r.length qc))) (v := .slice (some ⟨w'.heap.size, 0, none⟩) 1 1) (wanted_none rfl) ?_ ⟨_, rfl, Ob.new w' _ [_, _, _, _, _]⟩ ((Ext.refl _).alloc _)
          simp [execOp, Act.eval, g16, hb1, Sem.run_bind, Sem.run_pure, Result.andThen_ok]
      · intro b w2 hX2 hd hz he' hf
        have e12 : b.tmps.getD 12 undef = (.pointer (some ⟨p, 0, none⟩)) := hf 0 _ 12 (by omega) rfl rfl
        have e13 : b.tmps.getD 13 undef = (.pointer (some ⟨bt, 1, none⟩)) := hf 1 _ 13 (by omega) rfl rfl
        have e14 : b.tmps.getD 14 undef = (.int .i64 i) := hf 2 _ 14 (by omega) rfl rfl
        have f15 : ∃ G, OwnM w2 B0 (b.tmps.getD 15 undef) G ∧ pms G = gistP (atP L i) s.1 := hf 3 _ 15 (by omega) rfl rfl
        have e16 : b.tmps.getD 16 undef = (mg 3 i f t (.slice QA r.length qc)) := hf 4 _ 16 (by omega) rfl rfl
        have f17 : ∃ xb, (b.tmps.getD 17 undef) = .slice (some ⟨xb, 0, none⟩) 1 1 ∧ Ob w2 xb 44 [.int .i64 3, .int .i64 i, .int .i64 f, .int .i64 t, .slice QA r.length qc] := hf 5 _ 17 (by omega) rfl rfl
        have e := frame_puts hd hz he'
        obtain ⟨X, hXx⟩ : ∃ X : Nat → Value, ∀ d, b.tmps.getD d undef = X d := ⟨_, fun _ => rfl⟩
        rw [hXx] at e12 e13 e14 e16 f15 f17
        obtain ⟨G, hG, hGp⟩ := f15
        obtain ⟨A15, c15, q15⟩ := OwnX.form hG
        rw [q15] at hG
        obtain ⟨xb, q17, hxb⟩ := f17
        rw [show dstsOf _ = [12, 13, 14, 15, 16, 17] from rfl] at e
        simp only [List.foldl_cons, List.foldl_nil, hXx, Act.put, List.setIfInBounds_toArray, List.set_cons_succ, List.set_cons_zero] at e
        rw [e12, e13, e14, e16, q15, q17] at e
        clear hf he' hz hd hXx e12 e13 e14 e16 q15 q17
        subst e
        have hzw := hX2.size
        simp only [List.drop_succ_cons, List.drop_zero]
        have hX9 := hide (show Ext W0 w2 from hX2)
        replace hG := hide hG
        replace hGp := hide hGp
        replace hxb := hide hxb
        have hGl := hgl.out G hGp.out
        clear hX2
        go_wp2_with (first | (at_builtin; refine wpl_app tMsg rfl (.tmp 15) (.tmp 17) rfl rfl hG.out.1 rfl (src_msg _ _ _ _ _ _ _ rfl hxb.out) (by unfold maxLen; omega) (by omega) (by have := hX9.out.size; rw [hB0.out]; omega) ?_; intro v5 w5 ho5 hg5 hob5; replace hg5 : World.grownBy _ w5 (Value.slice A15 G.length c15).ownBlock := hg5; have hX5 := hide (ext_fr hX9.out (fr_grown hg5) (fun b hb => by have h1 := (ob_ge hG.out.1 b hb).1; rw [hB0.out] at h1; exact h1)); have hM5 := hide (hmw.out _ _ G v5 w5 hG.out ho5 hg5 hX5.out); obtain ⟨A5, c5, e5⟩ := own_form ho5; subst e5; clear ho5 hg5 hob5; have hrs := hide (hres.out G _ w5 hX5.out hM5.out hGp.out)) | (go_at_call 40; (with_reducible refine seq_gw hrs.out ?_); intro g8; have hX8 := hide (hX5.out.trans g8.grown); have T8 := hide (hOt.out.ext hX8.out); have t0 := T8.out.cell 0 rfl; have t1 := T8.out.cell 1 rfl; have t2 := T8.out.cell 2 rfl; have C8 := hide (hOc.out.ext hX8.out); have x0 := C8.out.cell 0 rfl; have z0 := C8.out.free 0; have x1 := C8.out.cell 1 rfl; have z1 := C8.out.free 1; have x2 := C8.out.cell 2 rfl; have z2 := C8.out.free 2; have x3 := C8.out.cell 3 rfl; have z3 := C8.out.free 3; have x4 := C8.out.cell 4 rfl; have z4 := C8.out.free 4; have x5 := C8.out.cell 5 rfl; have z5 := C8.out.free 5; haveI : In bt g8.val := ⟨T8.out.lt⟩; haveI : In bc g8.val := ⟨C8.out.lt⟩) | (go_at_call 41; refine (hpass.out _ hX8.out).mono ?_; rintro ee w9 ⟨rfl, hP9, hK9, hB9⟩; have C9 := hide (hK9.typ _ _ _ C8.out (by decide) (by decide)); have y0 := C9.out.cell 0 rfl; have yz0 := C9.out.free 0; have y1 := C9.out.cell 1 rfl; have yz1 := C9.out.free 1; have y2 := C9.out.cell 2 rfl; have yz2 := C9.out.free 2; have y3 := C9.out.cell 3 rfl; have yz3 := C9.out.free 3; have y4 := C9.out.cell 4 rfl; have yz4 := C9.out.free 4; have y5 := C9.out.cell 5 rfl; have yz5 := C9.out.free 5; haveI : In bc w9 := ⟨C9.out.lt⟩; replace hP9 := hide hP9; replace hK9 := hide hK9; replace hB9 := hide hB9))
        refine bodyPost_ret (by simp [results, Tryz.results10, go_sem, y0, y1, y2, y3, y4, y5]; try rfl) rfl ?_
        have hF := ((((((Fr.refl [bc] w9).setCell ⟨bc, 0, none⟩ (.int .i64 0) (.inl (by simp))).setCell ⟨bc, 1, none⟩ (.slice none 0 0) (.inl (by simp))).setCell ⟨bc, 2, none⟩ (.int .i64 0) (.inl (by simp))).setCell ⟨bc, 3, none⟩ (.int .i64 0) (.inl (by simp))).setCell ⟨bc, 4, none⟩ (.int .i64 0) (.inl (by simp))).setCell ⟨bc, 5, none⟩ (.int .i64 0) (.inl (by simp))
        have hk9 := kq_fresh ((kq_ext hplt (hX0h.out.trans hX8.out)).trans hK9.out) hF hbc0 hplt
        have hb8 := (Below.mono (hX0h.out.trans hX8.out) hbw).trans hB9.out
        have hb9 := hb8.trans (below_fr hF (by have := hb8.size; omega) (by simp; omega))
        exact ⟨.slice none 0 0, 0, rfl, by rw [ez.out]; rfl, by rw [ez.out]; exact World.ownsRow_nil _ _ _ _, fun e => absurd rfl e, fun _ => ⟨0, .slice none 0 0, by rw [htk.out, hnx.out 0 (.slice none 0 0)]; exact pz_more (pz_set hP9.out C9.out hF (by decide) (by decide) (by decide) (by decide) (by decide))⟩, hk9, hb9⟩
    · have hk1 : (k == 3) = false := by simp [hk]
      have hk2 : decide (k = 3) = false := decide_eq_false hk
      have hk' : m.1.1 ≠ 3 := by rw [hmk]; exact hk
      have hs0 := set_nx hI m hE0 hk'
      have hts := tk_serial hI m hE0 hk'
      have hgc := gist_chg hI m hE0 hk'
      rw [hmi] at hgc hts hs0
      obtain ⟨T2, hT2⟩ := runS_inv (gistP (atP L i) s.1)
      rw [hrun] at hT2
      have h8 := chg_r8 hT2 m
      rw [hgc] at h8
      replace hts : (tk s m).2 = (serP (atP L i) s.2.length, (chP L m).2) := hts
      replace hs0 : ∀ (b : Nat) (v : Value), (if s.1 < (chP L m).2.2.2.2 then insP (delP L i) (((i, serP (atP L i) s.2.length), (chP L m).2.1, ((chP L m).2.2.2.1, (chP L m).2.2.2.2)), b, v) else delP L i) = nxP L s m b v ∧ max (s.2.length : Int) (serP (atP L i) s.2.length : Int) = ((tk s m).1.2.length : Int) ∧ (tk s m).1.1 = s.1 := hs0
      obtain ⟨SN, hSN⟩ : ∃ SN : Nat, SN = serP (atP L i) s.2.length := ⟨_, rfl⟩
      rw [← hSN] at hts
      simp only [← hSN] at hs0
      have hsI : (match atP L i with | some y => (pSer y : Int) | none => (s.2.length : Int) + 1) = (SN : Int) := by
        rw [hSN]
        unfold serP
        cases atP L i <;> simp
      have hser : Hid (∀ w', Ext W0 w' → Calls Tryz.prog 44 #[.pointer (some ⟨p, 0, none⟩), .int .i64 i] w' fun e w2 => e = .returned (.int .i64 (SN : Int)) ∧ Ext w' w2) := by
        show ∀ _, _ → _
        intro w' hX
        refine (pserialOf_c i hin.1.2.1 w' (hz0.ext hX) ⟨by omega, by omega⟩).mono ?_
        rintro e w2 ⟨rfl, hx⟩
        exact ⟨congrArg (fun z => Ending.returned (Value.int .i64 z)) hsI, hx⟩
      obtain ⟨⟨C1, Cr, ⟨Co1, Co2⟩, Cn1, Cn2⟩, hCe⟩ : ∃ C, C = chP L m := ⟨_, rfl⟩
      rw [← hCe] at hs0 hts hgc h8
      simp only at hs0 hts h8
      have hchg : Hid (∀ (G : List Vm) (v5 : Value) (w' : World), Mw w' [] v5 (G ++ [((.slice QA r.length qc : Value), m)]) → pms G = gistP (atP L i) s.1 → Calls Tryz.prog 43 #[v5] w' fun e w2 => ∃ sv M0 cv, e = .returned sv ∧ OwnCh w2 w'.heap.size sv (M0 ++ [(cv, ((C1, Cr, (Co1, Co2), Cn1, Cn2) : Ch))]) ∧ M0.length ≤ 100000 ∧ Ext w' w2) := by
        show ∀ _ _ _, _ → _ → _
        intro G v5 w' hM hG
        have hGl := hgl G hG
        refine (changes_c (G ++ [((.slice QA r.length qc : Value), m)]) v5 w' hM (hgin2 G hG) (by simp; omega)).mono ?_
        rintro e w2 ⟨sv, M, rfl, hO, hMs, hX⟩
        have hpm : pms (G ++ [((.slice QA r.length qc : Value), m)]) = gistP (atP L i) s.1 ++ [m] := by rw [← hG]; simp [pms]
        rw [hpm] at hMs
        have hl := runC_last hrun m (by rw [hch]; exact hE0) hk'
        rw [← hMs, hgc] at hl
        have hln := runC_len (gistP (atP L i) s.1 ++ [m]) (0, [])
        rw [← hMs] at hln
        have hgl2 := gist_len (atP L i) s.1
        simp only [List.length_map, List.length_append, List.length_singleton] at hln
        obtain ⟨l0, hl0⟩ := List.getLast?_eq_some_iff.1 hl
        obtain ⟨M0, M1, rfl, h01, h02⟩ := List.map_eq_append_iff.1 hl0
        obtain ⟨q, rfl, hq⟩ := List.map_eq_singleton_iff.1 h02
        obtain ⟨cv, qc2⟩ := q
        simp only at hq
        subst hq
        exact ⟨sv, M0, cv, rfl, hO, by simp at hln; omega, hX⟩
      have hset := hide (fun w' CA cc (hz : Pz w' base p sc s.1 s.2.length mb n L) (hr : RwO w' (.slice CA Cr.length cc) Cr) (hb : base ≤ w'.heap.size) => pset_c i SN Cr Co1 Co2 Cn1 Cn2 (.slice CA Cr.length cc) w' hz hI.srt hI.ids hin.1.2.1 hL hr (by omega) hb hbm hbp hnM)
      have ez : Hid (chT L s m 0 = (SN, Cr, (Co1, Co2), Cn1, Cn2)) := by
        show chT L s m 0 = (SN, Cr, (Co1, Co2), Cn1, Cn2)
        unfold chT
        rw [if_pos ⟨rfl, hk'⟩, hts]
      have hfin : Hid (∀ b v w', Pz w' base p sc s.1 (max (s.2.length : Int) SN) mb (n + 1) (if s.1 < Cn2 then insP (delP L i) (((i, SN), Cr, (Cn1, Cn2)), b, v) else delP L i) → Pz w' base p sc (tk s m).1.1 (tk s m).1.2.length mb (n + 1) (nxP L s m b v)) := by
        show ∀ _ _ _, _ → _
        intro b v w' hz
        obtain ⟨e1, e2, e3⟩ := hs0 b v
        rw [e1, e2] at hz
        rw [e3]
        exact hz
      clear h hI hT hin hnum hrv hW0 hX0 hz0 hgin hgin2 hbt hbc hrun hch hmk hmi hidL hE0 hs0 hts hgc hT2 h8 hCe hk' hsI hSN
      replace hm := hide hm
      replace hgl := hide hgl
      haveI : In bt W0 := ⟨hOt.out.lt⟩
      haveI : In bc W0 := ⟨hOc.out.lt⟩
      go_enter Tryz.func10, Tryz.ntmps10
      go_wp2_with fail
      rw [← hbch.out, ← hbth.out, ← hW0h.out]
      refine wp_region_list_tail 6 [(.is ((.pointer (some ⟨p, 0, none⟩)))), (.is ((.pointer (some ⟨bt, 1, none⟩)))), (.is ((.int .i64 i))), (.st (fun v w => ∃ G, OwnM w B0 v G ∧ pms G = gistP (atP L i) s.1) (fun v w w' ⟨G, h1, h2⟩ k => ⟨G, h1.ext k, h2⟩)), (.is ((mg k i f t (.slice QA r.length qc)))), (.st (fun v w => ∃ xb, v = .slice (some ⟨xb, 0, none⟩) 1 1 ∧ Ob w xb 44 [.int .i64 k, .int .i64 i, .int .i64 f, .int .i64 t, .slice QA r.length qc]) (fun v w w' ⟨xb, h1, h2⟩ k => ⟨xb, h1, h2.ext k⟩))] (by kernel_rfl) (by kernel_rfl) (by kernel_rfl) (by kernel_rfl) (by kernel_rfl) (by kernel_rfl) (by kernel_rfl) ?_ ?_
      · refine ⟨?_, ?_, ?_, ?_, ?_, ?_, trivial⟩
        · intro b w' h hE
          have f0 : b.tmps.getD 0 undef = (.pointer (some ⟨p, 0, none⟩)) := hE 0 (of_decide_eq_true (by kernel_rfl))
          exact good_move (wanted_none rfl) rfl f0
        · intro b w' h hE
          have f3 : b.tmps.getD 3 undef = (.pointer (some ⟨bt, 0, none⟩)) := hE 3 (of_decide_eq_true (by kernel_rfl))
          exact good_field (wanted_none rfl) rfl f3 (by simp [go_sem]) rfl
        · intro b w' h hE
          have f13 : b.tmps.getD 13 undef = (.pointer (some ⟨bt, 1, none⟩)) := h.dep 1 _ 13 (by kernel_rfl) rfl rfl
          have c0 := cell_later h.ext b1.out
          exact good_load (wanted_none rfl) rfl f13 (by simp [go_sem, c0]) rfl
        · intro b w' h hE
          have f12 : b.tmps.getD 12 undef = (.pointer (some ⟨p, 0, none⟩)) := h.dep 0 _ 12 (by kernel_rfl) rfl rfl
          have g12 : b.tmps[12]?.getD undef = (.pointer (some ⟨p, 0, none⟩)) := by rw [← Array.getD_eq_getD_getElem?]; exact f12
          have f14 : b.tmps.getD 14 undef = (.int .i64 i) := h.dep 2 _ 14 (by kernel_rfl) rfl rfl
          have g14 : b.tmps[14]?.getD undef = (.int .i64 i) := by rw [← Array.getD_eq_getD_getElem?]; exact f14
          refine good_call (wanted_none rfl) rfl (enters Tryz.func39 (by kernel_rfl) rfl) ?_
          rw [show (#[.tmp 12, .tmp 14] : Array Operand).map b.eval = #[.pointer (some ⟨p, 0, none⟩), .int .i64 i] by simp [Act.eval, g12, g14]]
          exact (hgist.out w' h.ext).mono fun e w1 ⟨v1, G1, he, h1, h2, h3⟩ => ⟨v1, he, ⟨G1, ⟨own_base h1.1 (by have := h.ext.size; rw [hB0.out]; exact Nat.le_trans hB0le.out this), h1.2⟩, h2⟩, h3⟩
        · intro b w' h hE
          have f3 : b.tmps.getD 3 undef = (.pointer (some ⟨bt, 0, none⟩)) := hE 3 (of_decide_eq_true (by kernel_rfl))
          have c0 := cell_later h.ext b0.out
          have c1 := cell_later h.ext b1.out
          have c2 := cell_later h.ext b2.out
          have c3 := cell_later h.ext b3.out
          have c4 := cell_later h.ext b4.out
          exact good_load (wanted_none rfl) rfl f3 (by simp [go_sem, c0, c1, c2, c3, c4]) rfl
        · intro b w' h hE
          have f16 : b.tmps.getD 16 undef = (mg k i f t (.slice QA r.length qc)) := h.dep 4 _ 16 (by kernel_rfl) rfl rfl
          have g16 : b.tmps[16]?.getD undef = (mg k i f t (.slice QA r.length qc)) := by rw [← Array.getD_eq_getD_getElem?]; exact f16
          have hb1 : (Instr.buildSlice 24 1 #[(0, mg k i f t (.slice QA r.length qc))]).run Tryz.prog w' = .ok (.slice (some ⟨w'.heap.size, 0, none⟩) 1 1) (w'.alloc (mO k i f t (.slice QA r.length qc))) := by simp [go_sem]
          refine good_grow (w' := w'.alloc (mO k i f t (.slice QA r.length qc))) (v := .slice (some ⟨w'.heap.size, 0, none⟩) 1 1) (wanted_none rfl) ?_ ⟨_, rfl, Ob.new w' _ [_, _, _, _, _]⟩ ((Ext.refl _).alloc _)
          simp [execOp, Act.eval, g16, hb1, Sem.run_bind, Sem.run_pure, Result.andThen_ok]
      · intro b w2 hX2 hd hz he' hf
        have e12 : b.tmps.getD 12 undef = (.pointer (some ⟨p, 0, none⟩)) := hf 0 _ 12 (by omega) rfl rfl
        have e13 : b.tmps.getD 13 undef = (.pointer (some ⟨bt, 1, none⟩)) := hf 1 _ 13 (by omega) rfl rfl
        have e14 : b.tmps.getD 14 undef = (.int .i64 i) := hf 2 _ 14 (by omega) rfl rfl
        have f15 : ∃ G, OwnM w2 B0 (b.tmps.getD 15 undef) G ∧ pms G = gistP (atP L i) s.1 := hf 3 _ 15 (by omega) rfl rfl
        have e16 : b.tmps.getD 16 undef = (mg k i f t (.slice QA r.length qc)) := hf 4 _ 16 (by omega) rfl rfl
        have f17 : ∃ xb, (b.tmps.getD 17 undef) = .slice (some ⟨xb, 0, none⟩) 1 1 ∧ Ob w2 xb 44 [.int .i64 k, .int .i64 i, .int .i64 f, .int .i64 t, .slice QA r.length qc] := hf 5 _ 17 (by omega) rfl rfl
        have e := frame_puts hd hz he'
        obtain ⟨X, hXx⟩ : ∃ X : Nat → Value, ∀ d, b.tmps.getD d undef = X d := ⟨_, fun _ => rfl⟩
        rw [hXx] at e12 e13 e14 e16 f15 f17
        obtain ⟨G, hG, hGp⟩ := f15
        obtain ⟨A15, c15, q15⟩ := OwnX.form hG
        rw [q15] at hG
        obtain ⟨xb, q17, hxb⟩ := f17
        rw [show dstsOf _ = [12, 13, 14, 15, 16, 17] from rfl] at e
        simp only [List.foldl_cons, List.foldl_nil, hXx, Act.put, List.setIfInBounds_toArray, List.set_cons_succ, List.set_cons_zero] at e
        rw [e12, e13, e14, e16, q15, q17] at e
        clear hf he' hz hd hXx e12 e13 e14 e16 q15 q17
        subst e
        have hzw := hX2.size
        simp only [List.drop_succ_cons, List.drop_zero]
        have hX9 := hide (show Ext W0 w2 from hX2)
        replace hG := hide hG
        replace hGp := hide hGp
        replace hxb := hide hxb
        have hGl := hgl.out G hGp.out
        clear hX2
        go_wp2_with (first | (at_builtin; refine wpl_app tMsg rfl (.tmp 15) (.tmp 17) rfl rfl hG.out.1 rfl (src_msg _ _ _ _ _ _ _ rfl hxb.out) (by unfold maxLen; omega) (by omega) (by have := hX9.out.size; rw [hB0.out]; omega) ?_; intro v5 w5 ho5 hg5 hob5; replace hg5 : World.grownBy _ w5 (Value.slice A15 G.length c15).ownBlock := hg5; have hX5 := hide (ext_fr hX9.out (fr_grown hg5) (fun b hb => by have h1 := (ob_ge hG.out.1 b hb).1; rw [hB0.out] at h1; exact h1)); have hM5 := hide (hmw.out _ _ G v5 w5 hG.out ho5 hg5 hX5.out); obtain ⟨A5, c5, e5⟩ := own_form ho5; subst e5; clear ho5 hg5 hob5; have hrs := hide (hres.out G _ w5 hX5.out hM5.out hGp.out)) | (go_at_call 40; (with_reducible refine seq_gw hrs.out ?_); intro g8; have hX8 := hide (hX5.out.trans g8.grown); have T8 := hide (hOt.out.ext hX8.out); have t0 := T8.out.cell 0 rfl; have t1 := T8.out.cell 1 rfl; have t2 := T8.out.cell 2 rfl; have C8 := hide (hOc.out.ext hX8.out); have x0 := C8.out.cell 0 rfl; have z0 := C8.out.free 0; have x1 := C8.out.cell 1 rfl; have z1 := C8.out.free 1; have x2 := C8.out.cell 2 rfl; have z2 := C8.out.free 2; have x3 := C8.out.cell 3 rfl; have z3 := C8.out.free 3; have x4 := C8.out.cell 4 rfl; have z4 := C8.out.free 4; have x5 := C8.out.cell 5 rfl; have z5 := C8.out.free 5; haveI : In bt g8.val := ⟨T8.out.lt⟩; haveI : In bc g8.val := ⟨C8.out.lt⟩) | (go_at_call 43; refine (hchg.out G _ g8.val (hM5.out.ext g8.grown) hGp.out).mono ?_; rintro ee w9 ⟨v9, M0, cv, rfl, hO9, hM0, hX9b⟩; have hX10 := hide (hX8.out.trans hX9b); have hl9 := plastC_c M0 _ v9 w9 _ hO9 hM0; have hr9 := hO9.2 _ (List.mem_append_right _ (List.mem_singleton.2 rfl)); obtain ⟨CA, cc, ecv⟩ := own_form hr9; simp only at ecv; subst ecv; replace hr9 := hide (show RwO w9 (.slice CA Cr.length cc) Cr from hr9); clear hX9b; obtain ⟨A9, c9, e9⟩ := OwnX.form hO9; (rw [List.length_append, List.length_singleton] at e9); subst e9; replace hl9 : Hid (Calls Tryz.prog 42 #[.slice A9 (M0.length + 1) c9] w9 fun e w' => e = .returned (.agg #[.int .i64 (C1 : Nat), .slice CA Cr.length cc, .int .i64 Co1, .int .i64 Co2, .int .i64 Cn1, .int .i64 Cn2]) ∧ Ext w9 w') := hl9; clear hO9) | (go_at_call 42; (with_reducible refine seq_gw hl9.out ?_); intro g10; have T10 := hide (hOt.out.ext (hX10.out.trans g10.grown)); have vv1 := T10.out.cell 1 rfl; haveI : In bt g10.val := ⟨T10.out.lt⟩) | (go_at_call 44; (with_reducible refine seq_gw (hser.out _ ((hX10.out.trans g10.grown).alloc _)) ?_); intro g12; have O8 := hide ((Ob.new g10.val 39 [.int .i64 (C1 : Nat), .slice CA Cr.length cc, .int .i64 Co1, .int .i64 Co2, .int .i64 Cn1, .int .i64 Cn2]).ext g12.grown); have hX12 := hide (((hX10.out.trans g10.grown).alloc (.cells #[.int .i64 (C1 : Nat), .slice CA Cr.length cc, .int .i64 Co1, .int .i64 Co2, .int .i64 Cn1, .int .i64 Cn2] 39)).trans g12.grown); have o0 := O8.out.cell 0 rfl; have oz0 := O8.out.free 0; have o1 := O8.out.cell 1 rfl; have oz1 := O8.out.free 1; have o2 := O8.out.cell 2 rfl; have oz2 := O8.out.free 2; have o3 := O8.out.cell 3 rfl; have oz3 := O8.out.free 3; have o4 := O8.out.cell 4 rfl; have oz4 := O8.out.free 4; have o5 := O8.out.cell 5 rfl; have oz5 := O8.out.free 5; haveI : In g10.val.heap.size g12.val := ⟨O8.out.lt⟩; have T12 := hide (hOt.out.ext hX12.out); have u1 := T12.out.cell 1 rfl; haveI : In bt g12.val := ⟨T12.out.lt⟩; have hr12 := hide (hr9.out.ext (g10.grown.trans (((Ext.refl _).alloc (.cells #[.int .i64 (C1 : Nat), .slice CA Cr.length cc, .int .i64 Co1, .int .i64 Co2, .int .i64 Cn1, .int .i64 Cn2] 39)).trans g12.grown))); have hb8 : bc < g10.val.heap.size := Nat.lt_of_lt_of_le hOc.out.lt (hX10.out.trans g10.grown).size; have hb8t : bt < g10.val.heap.size := Nat.lt_of_lt_of_le hOt.out.lt (hX10.out.trans g10.grown).size; have hne8 : bt ≠ g10.val.heap.size := by omega) | (go_at_call 45; have hF13 : Fr [g10.val.heap.size] g12.val (g12.val.setCell ⟨g10.val.heap.size, 0, none⟩ (.int .i64 (SN : Int))) := (Fr.refl _ _).setCell _ _ (.inl (by simp)); have hs13 := hF13.size; have hX12s := hX12.out.size; refine (hset.out _ CA cc (pz_set (hz0h.out.ext hX12.out) O8.out hF13 (by decide) (by decide) (by decide) (by decide) (by decide)) (hr12.out.stay hF13 (by intro b hb; rw [List.mem_singleton.1 hb]; exact O8.out.nt (by decide))) (by omega)).mono ?_; rintro ee w14 ⟨rfl, b14, v14, hP14, hK14, hB14⟩; have hX13 := hide (ext_fr ((hX0h.out.trans hX10.out).trans g10.grown) (Fr.refl [] _) (by simp)); have O14 := hide (hK14.typ _ _ _ (O8.out.set 0 (.int .i64 (SN : Int))) (by decide) (by decide)); have C14 := hide (hK14.typ _ _ _ ((hOc.out.ext hX12.out).fr hF13 (by simp; omega)) (by decide) (by decide)); have hr14 := hide (own_kq (hr12.out.stay hF13 (by intro b hb; rw [List.mem_singleton.1 hb]; exact O8.out.nt (by decide))) hK14 (by decide) (by decide)); have hXw := hide (ext_fr (hX0h.out.trans (hX10.out.trans g10.grown)) ((Fr.of_ext (S := [g10.val.heap.size]) (((Ext.refl g10.val).alloc (.cells #[.int .i64 (C1 : Nat), .slice CA Cr.length cc, .int .i64 Co1, .int .i64 Co2, .int .i64 Cn1, .int .i64 Cn2] 39)).trans g12.grown)).trans hF13) (by intro x hx; simp at hx; have := (hX0h.out.trans (hX10.out.trans g10.grown)).size; omega)); replace hP14 := hide hP14; replace hK14 := hide hK14; replace hB14 := hide hB14; have p0 := O14.out.cell 0 rfl; have pz0 := O14.out.free 0; have p1 := O14.out.cell 1 rfl; have pz1 := O14.out.free 1; have p2 := O14.out.cell 2 rfl; have pz2 := O14.out.free 2; have p3 := O14.out.cell 3 rfl; have pz3 := O14.out.free 3; have p4 := O14.out.cell 4 rfl; have pz4 := O14.out.free 4; have p5 := O14.out.cell 5 rfl; have pz5 := O14.out.free 5; have y0 := C14.out.cell 0 rfl; have yz0 := C14.out.free 0; have y1 := C14.out.cell 1 rfl; have yz1 := C14.out.free 1; have y2 := C14.out.cell 2 rfl; have yz2 := C14.out.free 2; have y3 := C14.out.cell 3 rfl; have yz3 := C14.out.free 3; have y4 := C14.out.cell 4 rfl; have yz4 := C14.out.free 4; have y5 := C14.out.cell 5 rfl; have yz5 := C14.out.free 5; haveI : In g10.val.heap.size w14 := ⟨O14.out.lt⟩; haveI : In bc w14 := ⟨C14.out.lt⟩; clear hX13))
        refine bodyPost_ret (by simp [results, Tryz.results10, go_sem, y0, y1, y2, y3, y4, y5]; try rfl) rfl ?_
        have hF := ((((((Fr.refl [bc] w14).setCell ⟨bc, 0, none⟩ (.int .i64 (SN : Int)) (.inl (by simp))).setCell ⟨bc, 1, none⟩ (.slice CA Cr.length cc) (.inl (by simp))).setCell ⟨bc, 2, none⟩ (.int .i64 Co1) (.inl (by simp))).setCell ⟨bc, 3, none⟩ (.int .i64 Co2) (.inl (by simp))).setCell ⟨bc, 4, none⟩ (.int .i64 Cn1) (.inl (by simp))).setCell ⟨bc, 5, none⟩ (.int .i64 Cn2) (.inl (by simp))
        have hk9 := kq_fresh ((kq_ext hplt hXw.out).trans hK14.out) hF hbc0 hplt
        have hb8 := (Below.mono hXw.out hbw).trans hB14.out
        have hb9 := hb8.trans (below_fr hF (by have := hb8.size; omega) (by simp; omega))
        exact ⟨.slice CA Cr.length cc, 0, rfl, by rw [ez.out]; rfl, by rw [ez.out]; exact own_stay hr14.out hF (by intro b hb; rw [List.mem_singleton.1 hb]; exact C14.out.nt (by decide)), fun e => absurd rfl e, fun _ => ⟨b14, v14, hfin.out _ _ _ (pz_set hP14.out C14.out hF (by decide) (by decide) (by decide) (by decide) (by decide))⟩, hk9, hb9⟩
  · have hR1 : (R == 0) = false := by simp [hR0]
    have hR2 : decide (R = 0) = false := decide_eq_false hR0
    clear h hI hT hin hnum hrv hW0 hX0 hz0 hgin hgin2 hbt hbc hrun hch hmk hmi hidL
    replace hm := hide hm
    replace hgl := hide hgl
    haveI : In bt W0 := ⟨hOt.out.lt⟩
    haveI : In bc W0 := ⟨hOc.out.lt⟩
    go_enter Tryz.func10, Tryz.ntmps10
    go_wp2_with fail
    rw [← hbch.out, ← hbth.out, ← hW0h.out]
    refine wp_region_list_tail 6 [(.is ((.pointer (some ⟨p, 0, none⟩)))), (.is ((.pointer (some ⟨bt, 1, none⟩)))), (.is ((.int .i64 i))), (.st (fun v w => ∃ G, OwnM w B0 v G ∧ pms G = gistP (atP L i) s.1) (fun v w w' ⟨G, h1, h2⟩ k => ⟨G, h1.ext k, h2⟩)), (.is ((mg k i f t (.slice QA r.length qc)))), (.st (fun v w => ∃ xb, v = .slice (some ⟨xb, 0, none⟩) 1 1 ∧ Ob w xb 44 [.int .i64 k, .int .i64 i, .int .i64 f, .int .i64 t, .slice QA r.length qc]) (fun v w w' ⟨xb, h1, h2⟩ k => ⟨xb, h1, h2.ext k⟩))] (by kernel_rfl) (by kernel_rfl) (by kernel_rfl) (by kernel_rfl) (by kernel_rfl) (by kernel_rfl) (by kernel_rfl) ?_ ?_
    · refine ⟨?_, ?_, ?_, ?_, ?_, ?_, trivial⟩
      · intro b w' h hE
        have f0 : b.tmps.getD 0 undef = (.pointer (some ⟨p, 0, none⟩)) := hE 0 (of_decide_eq_true (by kernel_rfl))
        exact good_move (wanted_none rfl) rfl f0
      · intro b w' h hE
        have f3 : b.tmps.getD 3 undef = (.pointer (some ⟨bt, 0, none⟩)) := hE 3 (of_decide_eq_true (by kernel_rfl))
        exact good_field (wanted_none rfl) rfl f3 (by simp [go_sem]) rfl
      · intro b w' h hE
        have f13 : b.tmps.getD 13 undef = (.pointer (some ⟨bt, 1, none⟩)) := h.dep 1 _ 13 (by kernel_rfl) rfl rfl
        have c0 := cell_later h.ext b1.out
        exact good_load (wanted_none rfl) rfl f13 (by simp [go_sem, c0]) rfl
      · intro b w' h hE
        have f12 : b.tmps.getD 12 undef = (.pointer (some ⟨p, 0, none⟩)) := h.dep 0 _ 12 (by kernel_rfl) rfl rfl
        have g12 : b.tmps[12]?.getD undef = (.pointer (some ⟨p, 0, none⟩)) := by rw [← Array.getD_eq_getD_getElem?]; exact f12
        have f14 : b.tmps.getD 14 undef = (.int .i64 i) := h.dep 2 _ 14 (by kernel_rfl) rfl rfl
        have g14 : b.tmps[14]?.getD undef = (.int .i64 i) := by rw [← Array.getD_eq_getD_getElem?]; exact f14
        refine good_call (wanted_none rfl) rfl (enters Tryz.func39 (by kernel_rfl) rfl) ?_
        rw [show (#[.tmp 12, .tmp 14] : Array Operand).map b.eval = #[.pointer (some ⟨p, 0, none⟩), .int .i64 i] by simp [Act.eval, g12, g14]]
        exact (hgist.out w' h.ext).mono fun e w1 ⟨v1, G1, he, h1, h2, h3⟩ => ⟨v1, he, ⟨G1, ⟨own_base h1.1 (by have := h.ext.size; rw [hB0.out]; exact Nat.le_trans hB0le.out this), h1.2⟩, h2⟩, h3⟩
      · intro b w' h hE
        have f3 : b.tmps.getD 3 undef = (.pointer (some ⟨bt, 0, none⟩)) := hE 3 (of_decide_eq_true (by kernel_rfl))
        have c0 := cell_later h.ext b0.out
        have c1 := cell_later h.ext b1.out
        have c2 := cell_later h.ext b2.out
        have c3 := cell_later h.ext b3.out
        have c4 := cell_later h.ext b4.out
        exact good_load (wanted_none rfl) rfl f3 (by simp [go_sem, c0, c1, c2, c3, c4]) rfl
      · intro b w' h hE
        have f16 : b.tmps.getD 16 undef = (mg k i f t (.slice QA r.length qc)) := h.dep 4 _ 16 (by kernel_rfl) rfl rfl
        have g16 : b.tmps[16]?.getD undef = (mg k i f t (.slice QA r.length qc)) := by rw [← Array.getD_eq_getD_getElem?]; exact f16
        have hb1 : (Instr.buildSlice 24 1 #[(0, mg k i f t (.slice QA r.length qc))]).run Tryz.prog w' = .ok (.slice (some ⟨w'.heap.size, 0, none⟩) 1 1) (w'.alloc (mO k i f t (.slice QA r.length qc))) := by simp [go_sem]
        refine good_grow (w' := w'.alloc (mO k i f t (.slice QA r.length qc))) (v := .slice (some ⟨w'.heap.size, 0, none⟩) 1 1) (wanted_none rfl) ?_ ⟨_, rfl, Ob.new w' _ [_, _, _, _, _]⟩ ((Ext.refl _).alloc _)
        simp [execOp, Act.eval, g16, hb1, Sem.run_bind, Sem.run_pure, Result.andThen_ok]
    · intro b w2 hX2 hd hz he' hf
      have e12 : b.tmps.getD 12 undef = (.pointer (some ⟨p, 0, none⟩)) := hf 0 _ 12 (by omega) rfl rfl
      have e13 : b.tmps.getD 13 undef = (.pointer (some ⟨bt, 1, none⟩)) := hf 1 _ 13 (by omega) rfl rfl
      have e14 : b.tmps.getD 14 undef = (.int .i64 i) := hf 2 _ 14 (by omega) rfl rfl
      have f15 : ∃ G, OwnM w2 B0 (b.tmps.getD 15 undef) G ∧ pms G = gistP (atP L i) s.1 := hf 3 _ 15 (by omega) rfl rfl
      have e16 : b.tmps.getD 16 undef = (mg k i f t (.slice QA r.length qc)) := hf 4 _ 16 (by omega) rfl rfl
      have f17 : ∃ xb, (b.tmps.getD 17 undef) = .slice (some ⟨xb, 0, none⟩) 1 1 ∧ Ob w2 xb 44 [.int .i64 k, .int .i64 i, .int .i64 f, .int .i64 t, .slice QA r.length qc] := hf 5 _ 17 (by omega) rfl rfl
      have e := frame_puts hd hz he'
      obtain ⟨X, hXx⟩ : ∃ X : Nat → Value, ∀ d, b.tmps.getD d undef = X d := ⟨_, fun _ => rfl⟩
      rw [hXx] at e12 e13 e14 e16 f15 f17
      obtain ⟨G, hG, hGp⟩ := f15
      obtain ⟨A15, c15, q15⟩ := OwnX.form hG
      rw [q15] at hG
      obtain ⟨xb, q17, hxb⟩ := f17
      rw [show dstsOf _ = [12, 13, 14, 15, 16, 17] from rfl] at e
      simp only [List.foldl_cons, List.foldl_nil, hXx, Act.put, List.setIfInBounds_toArray, List.set_cons_succ, List.set_cons_zero] at e
      rw [e12, e13, e14, e16, q15, q17] at e
      clear hf he' hz hd hXx e12 e13 e14 e16 q15 q17
      subst e
      have hzw := hX2.size
      simp only [List.drop_succ_cons, List.drop_zero]
      have hX9 := hide (show Ext W0 w2 from hX2)
      replace hG := hide hG
      replace hGp := hide hGp
      replace hxb := hide hxb
      have hGl := hgl.out G hGp.out
      clear hX2
      go_wp2_with (first | (at_builtin; refine wpl_app tMsg rfl (.tmp 15) (.tmp 17) rfl rfl hG.out.1 rfl (src_msg _ _ _ _ _ _ _ rfl hxb.out) (by unfold maxLen; omega) (by omega) (by have := hX9.out.size; rw [hB0.out]; omega) ?_; intro v5 w5 ho5 hg5 hob5; replace hg5 : World.grownBy _ w5 (Value.slice A15 G.length c15).ownBlock := hg5; have hX5 := hide (ext_fr hX9.out (fr_grown hg5) (fun b hb => by have h1 := (ob_ge hG.out.1 b hb).1; rw [hB0.out] at h1; exact h1)); have hM5 := hide (hmw.out _ _ G v5 w5 hG.out ho5 hg5 hX5.out); obtain ⟨A5, c5, e5⟩ := own_form ho5; subst e5; clear ho5 hg5 hob5; have hrs := hide (hres.out G _ w5 hX5.out hM5.out hGp.out)) | (go_at_call 40; (with_reducible refine seq_gw hrs.out ?_); intro g8; have hX8 := hide (hX5.out.trans g8.grown); have T8 := hide (hOt.out.ext hX8.out); have t0 := T8.out.cell 0 rfl; have t1 := T8.out.cell 1 rfl; have t2 := T8.out.cell 2 rfl; have C8 := hide (hOc.out.ext hX8.out); have x0 := C8.out.cell 0 rfl; have z0 := C8.out.free 0; have x1 := C8.out.cell 1 rfl; have z1 := C8.out.free 1; have x2 := C8.out.cell 2 rfl; have z2 := C8.out.free 2; have x3 := C8.out.cell 3 rfl; have z3 := C8.out.free 3; have x4 := C8.out.cell 4 rfl; have z4 := C8.out.free 4; have x5 := C8.out.cell 5 rfl; have z5 := C8.out.free 5; haveI : In bt g8.val := ⟨T8.out.lt⟩; haveI : In bc g8.val := ⟨C8.out.lt⟩))
      refine bodyPost_ret (by simp [results, Tryz.results10, go_sem, x0, x1, x2, x3, x4, x5]; try rfl) rfl ?_
      have hF := ((((((Fr.refl [bc] g8.val).setCell ⟨bc, 0, none⟩ (.int .i64 0) (.inl (by simp))).setCell ⟨bc, 1, none⟩ (.slice none 0 0) (.inl (by simp))).setCell ⟨bc, 2, none⟩ (.int .i64 0) (.inl (by simp))).setCell ⟨bc, 3, none⟩ (.int .i64 0) (.inl (by simp))).setCell ⟨bc, 4, none⟩ (.int .i64 0) (.inl (by simp))).setCell ⟨bc, 5, none⟩ (.int .i64 0) (.inl (by simp))
      have hXf := ext_fr (hX0h.out.trans hX8.out) hF (by intro x hx; simp at hx; omega)
      have ez : chT L s m R = zCh := if_neg (fun e => hR0 e.1)
      exact ⟨.slice none 0 0, R, rfl, by rw [ez]; rfl, by rw [ez]; exact World.ownsRow_nil _ _ _ _, fun _ => pz_set (hz0h.out.ext hX8.out) C8.out hF (by decide) (by decide) (by decide) (by decide) (by decide), fun e => absurd e hR0, kq_ext hplt hXf, Below.mono hXf hbw⟩
end
end Go.Proofs.YtajelkkiijdegaaGreat
