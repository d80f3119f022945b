/-
  A helper of ours: no claim of its own. Layer 14 (past): a past by the code beside the document's, what is asked of both behind each message.
-/
import Derived.Test.YtajelkkiijdegaaGreatPqC
import Derived.Test.YtajelkkiijdegaaGreatPqD
set_option linter.unusedVariables false
set_option linter.unusedSimpArgs false
namespace Go.Proofs.YtajelkkiijdegaaGreat
open Go.RowKit
attribute [local go_sem] GW.cell GW.frozen In.eq_true In.le_true In.ne In.ne' In.ne_add In.ne_add' In.lt_add Upto.le_true Upto.le_add Upto.lt_add
theorem Sd.kq {w w' : World} {base r p mb : Nat} {sv : Value} {S : StD} {ev gv : Value} {L : List Lv} (h : Sd w base r sv S ev gv L) (k : Kq p mb w w') : Sd w' base r sv S ev gv L :=
  ⟨k.typ _ _ _ h.ob (by decide) (by decide), ⟨own_kq h.own.1 k (by decide) (by decide), fun y hy => own_kq (h.own.2 y hy) k (by decide) (by decide)⟩, own_kq h.gone k (by decide) (by decide), h.evs, h.rb⟩
theorem pz_fr {w w' : World} {base p mb n : Nat} {sc : List Cl} {c ser : Int} {L : List Pb} {S : List Nat} (h : Pz w base p sc c ser mb n L) (hF : Fr S w w') (hS : ∀ b ∈ S, b ≠ mb ∧ NT w 93 b ∧ NT w 103 b ∧ NT w 109 b ∧ NT w 87 b ∧ NT w 83 b) : Pz w' base p sc c ser mb n L := by
  obtain ⟨⟨sv, u, hP, hC⟩, hM, hR⟩ := h
  exact ⟨⟨sv, u, ⟨hP.ob.fr hF (fun hm => (hS p hm).2.1 _ _ hP.ob), own_stay hP.own hF (fun b hb => (hS b hb).2.2.1), fun y hy => Ob.fr (hP.evs y hy) hF (fun hm => (hS _ hm).2.2.2.1 _ _ (hP.evs y hy))⟩, own_stay hC hF (fun b hb => (hS b hb).2.2.2.2.1)⟩, pmv_fr hM hF (fun hm => (hS mb hm).1 rfl), fun y hy => own_stay (hR y hy) hF (fun b hb => (hS b hb).2.2.2.2.2)⟩
theorem sd_not_map {w : World} {base r b : Nat} {sv : Value} {S : StD} {ev gv : Value} {L : List Lv} (h : Sd w base r sv S ev gv L) (hm : ∃ es c, w.heap[b]? = some (.map es c)) : ∀ x ∈ r :: (ob ev ++ ob gv), x ≠ b := fun x hx e => by
  subst e
  obtain ⟨es, c, hq⟩ := hm
  rcases List.mem_cons.1 hx with rfl | hx
  · have := h.ob; unfold Ob at this; rw [this] at hq; cases hq
  · have key : ∀ {v : Value} {e : TypeId} {sz n : Nat} {xs : List Value}, w.ownsRow base e sz v n xs → x ∈ ob v → False := fun {v e sz n xs} ho hx => by
      rcases ho.2 with ⟨h', -⟩ | ⟨g, cap, cur, h', -, hg, -⟩
      · rw [h'] at hx; simp [ob, Value.ownBlock] at hx
      · rw [h'] at hx
        have e1 : x = g := by simp [ob, Value.ownBlock] at hx; first | exact hx | exact hx.symm
        rw [e1, hg] at hq; cases hq
    rcases List.mem_append.1 hx with hx | hx
    · exact key h.own.1 hx
    · exact key h.gone hx
theorem pz_sd {w w' : World} {base p mb n base2 r : Nat} {sc : List Cl} {c ser : Int} {L : List Pb} {sv : Value} {S : StD} {ev gv : Value} {D : List Lv} (h : Pz w base p sc c ser mb n L) (hD : Sd w base2 r sv S ev gv D) (hF : Fr (r :: (ob ev ++ ob gv)) w w') : Pz w' base p sc c ser mb n L :=
  pz_fr h hF fun b hb => ⟨sd_not_map hD (Mv.isMap h.map) b hb, sdNt hD (by decide) (by decide) (by decide) b hb, sdNt hD (by decide) (by decide) (by decide) b hb, sdNt hD (by decide) (by decide) (by decide) b hb, sdNt hD (by decide) (by decide) (by decide) b hb, sdNt hD (by decide) (by decide) (by decide) b hb⟩
/-- A past of the program that took the first a of messages, one of the document that took the first k. -/
def TQ (sc : List Cl) (l : List PM) (B p mb r : Nat) (sv : Value) (a k : Nat) (w : World) : Prop := ∃ (n : Nat) (L : List Pb) (ev gv : Value) (D : List Lv), n ≤ a ∧ L.length ≤ a ∧ D.length ≤ k ∧ PInv L (runP sc (0, []) (l.take a)) ∧ Pz w B p sc (runP sc (0, []) (l.take a)).1 (runP sc (0, []) (l.take a)).2.length mb n L ∧ (∀ y ∈ L, ∀ x ∈ y.1.2.1, inI x.2.1) ∧ Sd w B r sv (runP sc (0, []) (l.take k)) ev gv D
theorem TQ.ext {sc : List Cl} {l : List PM} {B p mb r a k : Nat} {sv : Value} {w w' : World} (h : TQ sc l B p mb r sv a k w) (hX : Ext w w') : TQ sc l B p mb r sv a k w' := by
  obtain ⟨n, L, ev, gv, D, h1, h2, h3, h4, h5, h6, h7⟩ := h
  exact ⟨n, L, ev, gv, D, h1, h2, h3, h4, h5.ext hX, h6, h7.ext hX⟩
theorem tq_past {sc : List Cl} {l : List PM} {B p mb r k : Nat} {sv : Value} {w : World} (h : TQ sc l B p mb r sv k k w) (hl : l.length ≤ 400) (pk pi pf pt : Int) (pr : List Vl) (rv : Value) (hq : l[k]? = some ((pk, pi, pf, pt), pr)) (hin : inM ((pk, pi, pf, pt), pr)) (hrv : Rw w [] rv pr) (hbw : B ≤ w.heap.size) (hbm : B ≤ mb) (hbp : B ≤ p) :
    Calls Tryz.prog 10 #[.pointer (some ⟨p, 0, none⟩), mg pk pi pf pt rv] w fun e w' => ∃ cv, e = .returned (.tuple #[.agg (chO cv (chQ sc (runP sc (0, []) (l.take k)) ((pk, pi, pf, pt), pr))).toArray, .int .i64 (resP sc (runP sc (0, []) (l.take k)) ((pk, pi, pf, pt), pr))]) ∧ RwO w' cv (chQ sc (runP sc (0, []) (l.take k)) ((pk, pi, pf, pt), pr)).2.1 ∧ TQ sc l B p mb r sv (k + 1) k w' ∧ Kq p mb w w' ∧ Below B w w' := by
  obtain ⟨n, L, ev, gv, D, h1, h2, h3, h4, h5, h6, h7⟩ := h
  have hk : k < l.length := (List.getElem?_eq_some_iff.1 hq).1
  have hst := runP_take (sc := sc) hq
  obtain ⟨T, hT⟩ := runP_inv sc (l.take k)
  have hsl := runP_len sc (l.take k)
  rw [List.length_take] at hsl
  unfold TQ
  rw [hst]
  generalize runP sc (0, []) (l.take k) = s at *
  refine (ptake_c pk pi pf pt pr rv w h5 h4 hT hin h6 (by omega) hrv hbw hbm hbp (by unfold maxLen; omega) (by omega)).mono ?_
  rintro e w' ⟨cv, R, hR, he, hro, hP0, hP1, hK, hB⟩
  have hRe : R = resP sc s ((pk, pi, pf, pt), pr) := hR.trans (resI_cnt (by omega) (by omega))
  rw [hRe] at he hP0 hP1 hro
  rw [chQ_T (sc := sc)] at he hro
  refine ⟨cv, he, hro, ?_, hK, hB⟩
  unfold stpP
  by_cases h0 : resP sc s ((pk, pi, pf, pt), pr) = 0
  · obtain ⟨b, v, hP⟩ := hP1 h0
    simp only [if_pos h0]
    exact ⟨n + 1, _, ev, gv, D, by omega, Nat.le_trans len_nx (by omega), by omega, h4.take hT _ b v (resP_zero h0), hP, fun y hy => by
      rcases row_nx hy with e | ⟨z, hz, e⟩
      · rw [e]; exact hin.2
      · rw [e]; exact h6 z hz, h7.kq hK⟩
  · simp only [if_neg h0]
    exact ⟨n, L, ev, gv, D, by omega, by omega, by omega, h4, hP0 h0, h6, h7.kq hK⟩
theorem tq_doc {sc : List Cl} {l : List PM} {B p mb r k : Nat} {sv : Value} {w : World} (h : TQ sc l B p mb r sv (k + 1) k w) (hl : l.length ≤ 400) (pk pi pf pt : Int) (pr : List Vl) (rv : Value) (hq : l[k]? = some ((pk, pi, pf, pt), pr)) (hsc : Cw w [] sv sc) (hrv : Rw w [] rv pr) (hbw : B ≤ w.heap.size) :
    Calls Tryz.prog 11 #[.pointer (some ⟨r, 0, none⟩), mg pk pi pf pt rv] w fun e w' => ∃ cv, e = .returned (.tuple #[chV cv (chQ sc (runP sc (0, []) (l.take k)) ((pk, pi, pf, pt), pr)), .int .i64 (resP sc (runP sc (0, []) (l.take k)) ((pk, pi, pf, pt), pr))]) ∧ RwO w' cv (chQ sc (runP sc (0, []) (l.take k)) ((pk, pi, pf, pt), pr)).2.1 ∧ TQ sc l B p mb r sv (k + 1) (k + 1) w' ∧ Below B w w' ∧ (∀ b T vs, Ob w b T vs → 51 ≠ T → 59 ≠ T → 4 ≠ T → Ob w' b T vs) := by
  obtain ⟨n, L, ev, gv, D, h1, h2, h3, h4, h5, h6, h7⟩ := h
  have hk : k < l.length := (List.getElem?_eq_some_iff.1 hq).1
  have hst := runP_take (sc := sc) hq
  have hst' : runP sc (0, []) (l.take (k + 1)) = stpP sc (runP sc (0, []) (l.take k)) ((pk, pi, pf, pt), pr) := hst
  unfold TQ
  generalize hs1 : runP sc (0, []) (l.take (k + 1)) = s1 at *
  generalize runP sc (0, []) (l.take k) = s at *
  by_cases h0 : resP sc s ((pk, pi, pf, pt), pr) = 0
  · refine (docPast_yes B r sv s ev gv D sc pk pi pf pt pr rv w h7 (by omega) hsc hrv h0 hbw).mono ?_
    rintro e w' ⟨cv, ev', gv', D', he, hro, hS, hL, hF⟩
    rw [chQ_V h0] at he hro
    have e1 : s1 = stp s ((pk, pi, pf, pt), pr) := by rw [hst']; unfold stpP stp; rw [if_pos h0, if_pos (resP_zero h0)]
    rw [← e1] at hS
    exact ⟨cv, by rw [he, h0], hro, ⟨n, L, ev', gv', D', h1, h2, by omega, h4, pz_sd h5 h7 hF, h6, hS⟩, below_fr hF hbw (sdBlk h7), fun b T vs o n1 n2 n3 => o.fr hF fun hm => sdNt h7 n1 n2 n3 b hm _ _ o⟩
  · refine (docPast_no B r sv s ev gv D sc pk pi pf pt pr rv w h7 (by omega) hsc hrv h0).mono ?_
    rintro e w' ⟨he, hX⟩
    have e0 : chQ sc s ((pk, pi, pf, pt), pr) = zCh := by unfold chQ; rw [if_neg h0]
    have e1 : s1 = s := by rw [hst']; unfold stpP; rw [if_neg h0]
    rw [e0, e1]
    rw [e1] at h4 h5
    exact ⟨.slice none 0 0, he, rwo_nil w', ⟨n, L, ev, gv, D, h1, h2, by omega, h4, h5.ext hX, h6, h7.ext hX⟩, Below.mono hX hbw, fun b T vs o _ _ _ => o.ext hX⟩
end Go.Proofs.YtajelkkiijdegaaGreat
set_option linter.unusedVariables false
set_option linter.unusedSimpArgs false
namespace Go.Proofs.YtajelkkiijdegaaGreat
open Go.RowKit
attribute [local go_sem] GW.cell GW.frozen In.eq_true In.le_true In.ne In.ne' In.ne_add In.ne_add' In.lt_add Upto.le_true Upto.le_add Upto.lt_add
namespace Tak
set_option maxHeartbeats 2000000 in
set_option maxRecDepth 100000 in
theorem pnew_no (l : List Cl) (v : Value) (w : World) (h : Cw w [] v l) (ha : mayS l = false) : Calls Tryz.prog 7 #[v] w fun e w' => e = .returned (.tuple #[.pointer none, .int .i64 17]) ∧ Ext w w' := by
  have h1 := hide (mayS_c l v w h)
  rw [ha] at h1
  obtain ⟨A, cap, rfl, -, -, -⟩ := cw_form h
  clear h ha
  go_enter Tryz.func7, Tryz.ntmps7
  go_wp2_with (go_at_call 36; (with_reducible refine seq_gw h1.out ?_); intro g)
  go_returns
  exact ⟨rfl, g.grown⟩
theorem pcount_nil (w : World) : Calls Tryz.prog 9 #[.pointer none] w fun e w' => e = .returned (.int .i64 0) ∧ Ext w w' := by
  go_enter Tryz.func9, Tryz.ntmps9
  go_wp2_with fail
  go_returns
  exact ⟨rfl, Ext.refl _⟩
section
variable {base p : Nat} {sc : List Cl} {c ser : Int} {mb n : Nat} {L : List Pb}
set_option maxHeartbeats 2000000 in
set_option maxRecDepth 100000 in
theorem pschema_c (w : World) (h : Pz w base p sc c ser mb n L) (hz : sc.length ≤ 1048576) : Calls Tryz.prog 19 #[.pointer (some ⟨p, 0, none⟩)] w fun e w' => ∃ v', e = .returned v' ∧ Cw w' [] v' sc ∧ Ext w w' := by
  obtain ⟨⟨sv, u, hP, hC⟩, hM, -⟩ := h
  have c0 := hP.ob.cell 0 rfl
  haveI : In p w := ⟨hP.ob.lt⟩
  have hcl := hide (schClone_c sc sv w (Sl.own hC (by simp)) hz)
  obtain ⟨A, cap, rfl⟩ := own_form hC
  clear hM hP hC
  go_enter Tryz.func19, Tryz.ntmps19
  go_wp2_with (go_at_call 37; refine hcl.out.mono ?_; rintro ee w2 ⟨v2, rfl, ho2, hX2⟩; obtain ⟨A2, c2, e2⟩ := own_form ho2; subst e2; replace ho2 := hide ho2; replace hX2 := hide hX2)
  go_returns
  exact ⟨_, rfl, Sl.own ho2.out (by simp), hX2.out⟩
end
section
variable {sc : List Cl} {l : List PM} {B p mb r k : Nat} {sv : Value} {w : World}
theorem take_t (h : TQ sc l B p mb r sv k k w) (hl : l.length ≤ 400) (pk pi pf pt : Int) (pr : List Vl) (rv : Value) (hq : l[k]? = some ((pk, pi, pf, pt), pr)) (hin : inM ((pk, pi, pf, pt), pr)) (hrv : Rw w [] rv pr) (hbw : B ≤ w.heap.size) (hbm : B ≤ mb) (hbp : B ≤ p) {R : Int} (hR : R = resP sc (runP sc (0, []) (l.take k)) ((pk, pi, pf, pt), pr)) {cs : Nat} {cr : List Vl} {o1 o2 n1 n2 : Int} (hC : chQ sc (runP sc (0, []) (l.take k)) ((pk, pi, pf, pt), pr) = (cs, cr, (o1, o2), (n1, n2))) :
    Calls Tryz.prog 10 #[.pointer (some ⟨p, 0, none⟩), mg pk pi pf pt rv] w fun e w' => ∃ (CA : Option Addr) (cc : Nat), e = .returned (.tuple #[.agg #[.int .i64 cs, .slice CA cr.length cc, .int .i64 o1, .int .i64 o2, .int .i64 n1, .int .i64 n2], .int .i64 R]) ∧ RwO w' (.slice CA cr.length cc) cr ∧ TQ sc l B p mb r sv (k + 1) k w' ∧ Below B w w' := by
  refine (tq_past h hl pk pi pf pt pr rv hq hin hrv hbw hbm hbp).mono fun e w' ⟨cv, he, hr, hT, hK, hB⟩ => ?_
  rw [hC] at he hr
  obtain ⟨CA, cc, ec⟩ := rwo_val hr
  subst ec
  exact ⟨CA, cc, by rw [he, hR] <;> rfl, hr, hT, hB⟩
theorem doc_t (h : TQ sc l B p mb r sv (k + 1) k w) (hl : l.length ≤ 400) (pk pi pf pt : Int) (pr : List Vl) (rv : Value) (hq : l[k]? = some ((pk, pi, pf, pt), pr)) (hsc : Cw w [] sv sc) (hrv : Rw w [] rv pr) (hbw : B ≤ w.heap.size) {R : Int} (hR : R = resP sc (runP sc (0, []) (l.take k)) ((pk, pi, pf, pt), pr)) {cs : Nat} {cr : List Vl} {o1 o2 n1 n2 : Int} (hC : chQ sc (runP sc (0, []) (l.take k)) ((pk, pi, pf, pt), pr) = (cs, cr, (o1, o2), (n1, n2))) :
    Calls Tryz.prog 11 #[.pointer (some ⟨r, 0, none⟩), mg pk pi pf pt rv] w fun e w' => ∃ (CA : Option Addr) (cc : Nat), e = .returned (.tuple #[.agg #[.int .i64 cs, .slice CA cr.length cc, .int .i64 o1, .int .i64 o2, .int .i64 n1, .int .i64 n2], .int .i64 R]) ∧ RwO w' (.slice CA cr.length cc) cr ∧ TQ sc l B p mb r sv (k + 1) (k + 1) w' ∧ Below B w w' ∧ (∀ b T vs, Ob w b T vs → 51 ≠ T → 59 ≠ T → 4 ≠ T → Ob w' b T vs) ∧ ∀ u x, RwO w u x → RwO w' u x := by
  refine (tq_doc h hl pk pi pf pt pr rv hq hsc hrv hbw).mono fun e w' ⟨cv, he, hr, hT, hB, hO⟩ => ?_
  rw [hC] at he hr
  obtain ⟨CA, cc, ec⟩ := rwo_val hr
  subst ec
  refine ⟨CA, cc, by rw [he, hR] <;> rfl, hr, hT, hB, hO, fun u x hu => ⟨hu.1, ?_⟩⟩
  rcases hu.2 with h2 | ⟨g, cap, cur, e1, hb, hg, q⟩
  · exact .inl h2
  · have o : Ob w g 83 cur.toList := by unfold Ob; rw [hg, Array.toArray_toList]
    have o' := hO g _ _ o (by decide) (by decide) (by decide)
    unfold Ob at o'
    rw [Array.toArray_toList] at o'
    exact .inr ⟨g, cap, cur, e1, hb, o', q⟩
/-- Behind a message: what is asked of both. -/
theorem both (h : TQ sc l B p mb r sv k k w) (hl : l.length ≤ 400) : ∃ (c N : Int) (H : List Ch),
    (∀ w', Ext w w' → Calls Tryz.prog 13 #[.pointer (some ⟨p, 0, none⟩)] w' fun e w2 => e = .returned (.int .i64 c) ∧ Ext w' w2) ∧
    (∀ w', Ext w w' → Calls Tryz.prog 9 #[.pointer (some ⟨p, 0, none⟩)] w' fun e w2 => e = .returned (.int .i64 N) ∧ Ext w' w2) ∧
    (∀ w', Ext w w' → Calls Tryz.prog 14 #[.pointer (some ⟨r, 1, none⟩)] w' fun e w2 => e = .returned (.int .i64 N) ∧ Ext w' w2) ∧
    w.cell? ⟨r, 1, none⟩ = some (.int .i64 c) ∧ r < w.heap.size ∧ H.length ≤ 400 ∧
    (∀ w', Ext w w' → Calls Tryz.prog 16 #[.pointer (some ⟨p, 0, none⟩)] w' fun e w2 => ∃ v M, e = .returned v ∧ OwnCh w2 w'.heap.size v M ∧ M.map Prod.snd = H ∧ Ext w' w2) ∧
    (∀ w', Ext w w' → Calls Tryz.prog 17 #[.pointer (some ⟨r, 0, none⟩)] w' fun e w2 => ∃ v M, e = .returned v ∧ OwnCh w2 w'.heap.size v M ∧ M.map Prod.snd = H ∧ Ext w' w2) := by
  obtain ⟨n, L, ev, gv, D, h1, h2, h3, hPI, hPz, -, hSd⟩ := h
  obtain ⟨T, hT⟩ := runP_inv sc (l.take k)
  have hsl := runP_len sc (l.take k)
  rw [List.length_take] at hsl
  generalize runP sc (0, []) (l.take k) = S at *
  have hDl : D.length ≤ 400 := by rw [← hSd.evs, List.length_map] at hsl; omega
  have hLD : L.length ≤ 400 := by rw [hPI.count]; have := knw_le S.1 S.2; omega
  have h8 : ∀ y ∈ L, y.1.2.1.length ≤ 8 := fun y hy => by
    obtain ⟨-, -, y3⟩ := hPI.known y hy
    exact mayR8 (hT.evs _ (List.mem_of_getElem? y3)).2.2.2.1
  refine ⟨S.1, (L.length : Int), heldD S.1 0 S.2, fun w' hX => pclock_c w' (hPz.ext hX), fun w' hX => pcount_c w' (hPz.ext hX), fun w' hX => ?_, hSd.ob.cell 1 rfl, hSd.ob.lt, ?_, fun w' hX => ?_, fun w' hX => docHeld_c B r sv S ev gv D w' (hSd.ext hX) (by omega)⟩
  · rw [hPI.count]
    exact refKnown_c B r sv S ev gv D w' (hSd.ext hX) (by omega)
  · have := heldD_len S.1 S.2 0
    omega
  · refine (pheld_c w' (hPz.ext hX) (by omega) h8).mono ?_
    rintro e w2 ⟨s, v, M, he, hp, hs, ho, hM, hX2⟩
    exact ⟨v, M, he, ho, by rw [hM, hPI.held hp hs], hX2⟩
end
end Tak
end Go.Proofs.YtajelkkiijdegaaGreat
