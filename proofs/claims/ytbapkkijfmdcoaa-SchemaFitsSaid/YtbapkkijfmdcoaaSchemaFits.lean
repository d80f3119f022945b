/-
  Layer 7 (schema), 7.4: what fits part by part fits the whole: for every two schemas, rows, and columns, joined rows that fit fit the join, and picked ones what is picked. No condition.
-/
import Derived.Test.YtbapkkijfmdcoaaSchL
import Derived.Test.YtbapkkijfmdcoaaArgC
import Derived.WalkKit
import Derived.ProofKit
import Derived.OpenShut
import Derived.ShutString
import Derived.ChangeOld
import Derived.Below
import Derived.Lib.SmallJoins
import Derived.SizedLaws
import Derived.Deep.CondSized
import Derived.JoinedCond
set_option linter.unusedVariables false
set_option linter.unusedSimpArgs false
namespace Go.Proofs.Ytbapkkijfmdcoaa.schemaFits
open Go.ChangeShapes Go.WideShapes Go.ChangeAt Go.RowKit Go.Joins
open Go.ChangeMaps (open_string shut_string)
attribute [local go_sem] GW.cell GW.frozen In.eq_true In.le_true In.ne In.ne' In.ne_add In.ne_add' In.lt_add Upto.le_true Upto.le_add Upto.lt_add

theorem fits_iff {l : List Cl} {r : List Vl} : fitsS l r = true ↔ mayS l = true ∧ mayR r = true ∧ l.length = r.length ∧ ∀ (i : Nat) (x : Cl) (y : Vl), l[i]? = some x → r[i]? = some y → x.2 = y.1 := by
  unfold fitsS
  rw [Bool.and_eq_true, Bool.and_eq_true, eqP_iff]
  simp only [beq_iff_eq]
theorem pk_same {l : List Cl} {r : List Vl} (h : l.length = r.length) : ∀ cs : List Int, pkE r cs = pkSE l cs
  | [] => rfl
  | c :: t => by
    by_cases hb : c < 0 ∨ (l.length : Int) ≤ c
    · rw [pkSE_bad l c t hb, pkE_cons_bad r c t (by rw [← h]; exact hb)]
    · rw [pkSE_ok l c t hb, pkE_cons_ok r c t (by rw [← h]; exact hb), pk_same h t]
theorem pk_fit {l : List Cl} {r : List Vl} (h : l.length = r.length) (hk : ∀ (i : Nat) (x : Cl) (y : Vl), l[i]? = some x → r[i]? = some y → x.2 = y.1) : ∀ cs : List Int, pkSE l cs = 0 → eqP (fun (x : Cl) (y : Vl) => x.2 == y.1) (pkSV l cs) (pkV r cs) = true
  | [], _ => rfl
  | c :: t, h0 => by
    by_cases hb : c < 0 ∨ (l.length : Int) ≤ c
    · rw [pkSE_bad l c t hb] at h0; cases h0
    · rw [pkSE_ok l c t hb] at h0
      have hq : c.toNat < l.length := by omega
      obtain ⟨x, hx⟩ : ∃ x, l[c.toNat]? = some x := ⟨_, List.getElem?_eq_getElem hq⟩
      obtain ⟨y, hy⟩ : ∃ y, r[c.toNat]? = some y := ⟨_, List.getElem?_eq_getElem (by omega)⟩
      have e1 : pkSV l (c :: t) = x :: pkSV l t := by simp [pkSV, hx]
      have e2 : pkV r (c :: t) = y :: pkV r t := by simp [pkV, hy]
      rw [e1, e2, eqP_yes (by simpa using hk _ _ _ hx hy)]
      exact pk_fit h hk t h0
theorem pkV_may {r : List Vl} (h : mayR r = true) {cs : List Int} (h8 : cs.length ≤ 8) : mayR (pkV r cs) = true := by
  rw [mayR_iff] at h ⊢
  have := pkV_len r cs
  refine ⟨by omega, fun a ha => ?_⟩
  simp only [pkV, List.mem_flatMap] at ha
  obtain ⟨c, -, hc⟩ := ha
  cases hg : r[c.toNat]? with
  | none => rw [hg] at hc; simp at hc
  | some y =>
    rw [hg] at hc
    obtain rfl : a = y := by simpa using hc
    exact h.2 a (List.mem_of_getElem? hg)
theorem fit_pick {l : List Cl} {r : List Vl} {cs : List Int} (h : fitsS l r = true) (h0 : pickSE l cs = 0) (hp : 0 < (pickSV l cs).length) : pickE r cs = 0 ∧ fitsS (pickSV l cs) (pickV r cs) = true := by
  obtain ⟨h1, h2, h3, h4⟩ := fits_iff.1 h
  have eV : pickSV l cs = pkSV l cs := by unfold pickSV; rw [if_pos h0]
  unfold pickSE at h0
  rw [if_pos h1] at h0
  by_cases h8 : 8 < cs.length
  · rw [if_pos h8] at h0; cases h0
  rw [if_neg h8] at h0
  by_cases hz : pkSE l cs = 0
  · rw [if_pos hz] at h0
    have ha : apartB (pkSV l cs) = true := by
      cases e : apartB (pkSV l cs)
      · rw [e] at h0; cases h0
      · rfl
    have hE : pickE r cs = 0 := by unfold pickE; rw [if_pos h2, if_neg h8, pk_same h3, hz]
    refine ⟨hE, ?_⟩
    have hV : pickV r cs = pkV r cs := by unfold pickV; rw [if_pos hE]
    rw [eV] at hp ⊢
    rw [hV]
    unfold fitsS
    rw [pkS_may h1 rfl (by omega) hp, ha, pkV_may h2 (by omega), pk_fit h3 h4 cs hz]
    rfl
  · rw [if_neg hz] at h0; cases h0
theorem eqP_append {α β : Type} {p : α → β → Bool} : ∀ {a : List α} {r : List β} {b : List α} {s : List β}, eqP p a r = true → eqP p b s = true → eqP p (a ++ b) (r ++ s) = true
  | [], [], b, s, _, h => h
  | [], _ :: _, _, _, h, _ => by cases h
  | _ :: _, [], _, _, h, _ => by cases h
  | x :: a, y :: r, b, s, h, k => by
    have h' : (p x y && eqP p a r) = true := h
    rw [Bool.and_eq_true] at h'
    show eqP p (x :: (a ++ b)) (y :: (r ++ s)) = true
    rw [eqP_yes h'.1]
    exact eqP_append h'.2 k
theorem fit_join {a b : List Cl} {r s : List Vl} (h : fitsS a r = true) (k : fitsS b s = true) (h0 : joinSE a b = 0) : joinE r s = 0 ∧ fitsS (joinSV a b) (joinV r s) = true := by
  have eV : joinSV a b = a ++ b := by unfold joinSV; rw [if_pos h0]
  unfold fitsS at h k
  rw [Bool.and_eq_true, Bool.and_eq_true] at h k
  obtain ⟨h1, h2, h3⟩ := h
  obtain ⟨k1, k2, k3⟩ := k
  unfold joinSE at h0
  rw [h1, k1, if_pos (show (true && true) = true from rfl)] at h0
  by_cases h8 : 8 < a.length + b.length
  · rw [if_pos h8] at h0; cases h0
  rw [if_neg h8] at h0
  have ha : apartB (a ++ b) = true := by
    cases e : apartB (a ++ b)
    · rw [e] at h0; cases h0
    · rfl
  have l1 := (eqP_iff.1 h3).1
  have l2 := (eqP_iff.1 k3).1
  obtain ⟨e1, e2⟩ := join_ok (l := r) (m := s) (by rw [h2, k2]; rfl) (by omega)
  refine ⟨e1, ?_⟩
  rw [eV, e2]
  unfold fitsS
  have hr : mayR (r ++ s) = true := by
    rw [mayR_iff] at h2 k2 ⊢
    refine ⟨by rw [List.length_append]; omega, fun x hx => ?_⟩
    rcases List.mem_append.1 hx with hx | hx
    · exact h2.2 x hx
    · exact k2.2 x hx
  rw [mayS_join h1 k1 (by omega), ha, hr, eqP_append h3 k3]
  rfl
set_option maxHeartbeats 16000000 in
set_option maxRecDepth 100000 in
theorem walk (a b : List Cl) (r s : List Vl) (cs : List Int) (v1 v2 v3 v4 v5 : Value) (w : World) (ha : Cw w [] v1 a) (hb : Cw w [] v2 b) (hr : Rw w [] v3 r) (hs : Rw w [] v4 s) (hc : Sl w [] 1 v5 cs.length (ic cs)) : Calls Try.prog 6 #[v1, v2, v3, v4, v5] w fun e w' => e = .returned (.bool true) ∧ Ext w w' := by
  have f1 := hide (fitsS_c ha hr)
  have f3 := hide (fun w' (hX : Ext w w') => fitsS_c (Sl.ext hb hX) (Sl.ext hs hX))
  have hp := hide (fun w' (hX : Ext w w') => pickS_c a cs v1 v5 w' (Sl.ext ha hX) (Sl.ext hc hX))
  have hrp := hide (fun w' (hX : Ext w w') => rowPick_c r cs v3 v5 w' (Sl.ext hr hX) (Sl.ext hc hX))
  have hj := hide (fun w' (hX : Ext w w') => joinS_c a b v1 v2 w' (Sl.ext ha hX) (Sl.ext hb hX))
  have hrj := hide (fun w' (hX : Ext w w') => rowJoin_c r s v3 v4 w' (Sl.ext hr hX) (Sl.ext hs hX))
  cases hf : fitsS a r
  · rw [hf] at f1
    clear f3 hp hrp hj hrj ha hb hr hs hc hf
    go_enter Try.func6, Try.ntmps6
    go_wp2_with (first | (go_at_call 18; (with_reducible refine seq_gw f1.out ?_); intro g1) | (go_at_call 9; (with_reducible refine seq_gw' (schLive_c _) ?_); intro g2))
    go_returns
    exact ⟨rfl, g2.grown⟩
  rw [hf] at f1
  have hfp := fun h0 h1 => fit_pick (cs := cs) hf h0 h1
  have hfj := fun k h0 => fit_join (b := b) (s := s) hf k h0
  clear hf ha hb hr hs hc
  generalize pickSE a cs = E1 at *
  generalize pickSV a cs = P at *
  generalize pickE r cs = E2 at *
  generalize pickV r cs = Q at *
  generalize joinSE a b = E3 at *
  generalize joinSV a b = X at *
  generalize joinE r s = E4 at *
  generalize joinV r s = Y at *
  generalize fitsS b s = F3 at *
  by_cases hp0 : E1 = 0
  · by_cases hpl : 0 < P.length
    · obtain ⟨e2, hfPQ⟩ := hfp hp0 hpl
      subst hp0
      subst e2
      have hplI : (0 : Int) < P.length := by omega
      replace hfPQ := hide hfPQ
      clear hfp hpl
      cases F3
      · go_enter Try.func6, Try.ntmps6
        go_wp2_with (first | (go_at_call 18; (with_reducible refine seq_gw f1.out ?_); intro g1; clear f1) | (go_at_call 24; refine (hp.out _ g1.grown).mono ?_; rintro ee w2 ⟨u2, rfl, o2, x2⟩; have X2 := hide (g1.grown.trans x2); obtain ⟨P2, c2, rfl⟩ := own_form o2) | (go_at_call 26; refine (hrp.out _ X2.out).mono ?_; rintro ee w3 ⟨u3, rfl, o3, x3⟩; have X3 := hide (X2.out.trans x3); have s2 := hide (Sl.ext (own_cw (S := []) o2 (by simp)) x3); have s3 := hide (own_rw (S := []) o3 (by simp))) | (go_at_call 18; (with_reducible refine seq_gw (fitsS_c s2.out s3.out) ?_); rw [hfPQ.out]; intro g4; clear s2 s3; have XJ := hide (X3.out.trans g4.grown)) | (go_at_call 22; refine (hj.out _ XJ.out).mono ?_; rintro ee w5 ⟨u5, rfl, o5, x5⟩; have X5 := hide (XJ.out.trans x5)) | (go_at_call 18; (with_reducible refine seq_gw (f3.out _ X5.out) ?_); intro g6; clear f3) | (go_at_call 9; (with_reducible refine seq_gw' (schLive_c _) ?_); intro g9))
        go_returns
        exact ⟨rfl, X5.out.trans g9.grown⟩
      · by_cases hj0 : E3 = 0
        · obtain ⟨e4, hfXY⟩ := hfj rfl hj0
          subst hj0
          subst e4
          replace hfXY := hide hfXY
          clear hfj
          go_enter Try.func6, Try.ntmps6
          go_wp2_with (first | (go_at_call 18; (with_reducible refine seq_gw f1.out ?_); intro g1; clear f1) | (go_at_call 24; refine (hp.out _ g1.grown).mono ?_; rintro ee w2 ⟨u2, rfl, o2, x2⟩; have X2 := hide (g1.grown.trans x2); obtain ⟨P2, c2, rfl⟩ := own_form o2) | (go_at_call 26; refine (hrp.out _ X2.out).mono ?_; rintro ee w3 ⟨u3, rfl, o3, x3⟩; have X3 := hide (X2.out.trans x3); have s2 := hide (Sl.ext (own_cw (S := []) o2 (by simp)) x3); have s3 := hide (own_rw (S := []) o3 (by simp))) | (go_at_call 18; (with_reducible refine seq_gw (fitsS_c s2.out s3.out) ?_); rw [hfPQ.out]; intro g4; clear s2 s3; have XJ := hide (X3.out.trans g4.grown)) | (go_at_call 22; refine (hj.out _ XJ.out).mono ?_; rintro ee w5 ⟨u5, rfl, o5, x5⟩; have X5 := hide (XJ.out.trans x5)) | (go_at_call 18; (with_reducible refine seq_gw (f3.out _ X5.out) ?_); intro g6; clear f3) | (go_at_call 27; refine (hrj.out _ (X5.out.trans g6.grown)).mono ?_; rintro ee w7 ⟨u7, rfl, o7, x7⟩; have X7 := hide ((X5.out.trans g6.grown).trans x7); have t5 := hide (Sl.ext (own_cw (S := []) o5 (by simp)) (g6.grown.trans x7)); have t7 := hide (own_rw (S := []) o7 (by simp))) | (go_at_call 9; (with_reducible refine seq_gw (schLive_c _) ?_); intro g8) | (go_at_call 18; (with_reducible refine seq_gw' (fitsS_c (Sl.ext t5.out g8.grown) (Sl.ext t7.out g8.grown)) ?_); rw [hfXY.out]; intro g9))
          go_returns
          exact ⟨by first | rfl | simp, X7.out.trans g9.grown⟩
        · have hE3 : (E3 != 0) = true := by rw [bne_iff_ne]; exact hj0
          clear hfj hj0 hrj
          go_enter Try.func6, Try.ntmps6
          go_wp2_with (first | (go_at_call 18; (with_reducible refine seq_gw f1.out ?_); intro g1; clear f1) | (go_at_call 24; refine (hp.out _ g1.grown).mono ?_; rintro ee w2 ⟨u2, rfl, o2, x2⟩; have X2 := hide (g1.grown.trans x2); obtain ⟨P2, c2, rfl⟩ := own_form o2) | (go_at_call 26; refine (hrp.out _ X2.out).mono ?_; rintro ee w3 ⟨u3, rfl, o3, x3⟩; have X3 := hide (X2.out.trans x3); have s2 := hide (Sl.ext (own_cw (S := []) o2 (by simp)) x3); have s3 := hide (own_rw (S := []) o3 (by simp))) | (go_at_call 18; (with_reducible refine seq_gw (fitsS_c s2.out s3.out) ?_); rw [hfPQ.out]; intro g4; clear s2 s3; have XJ := hide (X3.out.trans g4.grown)) | (go_at_call 22; refine (hj.out _ XJ.out).mono ?_; rintro ee w5 ⟨u5, rfl, o5, x5⟩; have X5 := hide (XJ.out.trans x5)) | (go_at_call 18; (with_reducible refine seq_gw (f3.out _ X5.out) ?_); intro g6; clear f3) | (go_at_call 9; (with_reducible refine seq_gw' (schLive_c _) ?_); intro g9))
          go_returns
          exact ⟨rfl, X5.out.trans g9.grown⟩
    · have hplI : ¬ (0 : Int) < P.length := by omega
      subst hp0
      clear hfp hpl hrp
      cases F3
      · go_enter Try.func6, Try.ntmps6
        go_wp2_with (first | (go_at_call 18; (with_reducible refine seq_gw f1.out ?_); intro g1; clear f1) | (go_at_call 24; refine (hp.out _ g1.grown).mono ?_; rintro ee w2 ⟨u2, rfl, o2, x2⟩; have X2 := hide (g1.grown.trans x2); obtain ⟨P2, c2, rfl⟩ := own_form o2) | (go_at_call 22; refine (hj.out _ X2.out).mono ?_; rintro ee w5 ⟨u5, rfl, o5, x5⟩; have X5 := hide (X2.out.trans x5)) | (go_at_call 18; (with_reducible refine seq_gw (f3.out _ X5.out) ?_); intro g6; clear f3) | (go_at_call 9; (with_reducible refine seq_gw' (schLive_c _) ?_); intro g9))
        go_returns
        exact ⟨rfl, X5.out.trans g9.grown⟩
      · by_cases hj0 : E3 = 0
        · obtain ⟨e4, hfXY⟩ := hfj rfl hj0
          subst hj0
          subst e4
          replace hfXY := hide hfXY
          clear hfj
          go_enter Try.func6, Try.ntmps6
          go_wp2_with (first | (go_at_call 18; (with_reducible refine seq_gw f1.out ?_); intro g1; clear f1) | (go_at_call 24; refine (hp.out _ g1.grown).mono ?_; rintro ee w2 ⟨u2, rfl, o2, x2⟩; have X2 := hide (g1.grown.trans x2); obtain ⟨P2, c2, rfl⟩ := own_form o2) | (go_at_call 22; refine (hj.out _ X2.out).mono ?_; rintro ee w5 ⟨u5, rfl, o5, x5⟩; have X5 := hide (X2.out.trans x5)) | (go_at_call 18; (with_reducible refine seq_gw (f3.out _ X5.out) ?_); intro g6; clear f3) | (go_at_call 27; refine (hrj.out _ (X5.out.trans g6.grown)).mono ?_; rintro ee w7 ⟨u7, rfl, o7, x7⟩; have X7 := hide ((X5.out.trans g6.grown).trans x7); have t5 := hide (Sl.ext (own_cw (S := []) o5 (by simp)) (g6.grown.trans x7)); have t7 := hide (own_rw (S := []) o7 (by simp))) | (go_at_call 9; (with_reducible refine seq_gw (schLive_c _) ?_); intro g8) | (go_at_call 18; (with_reducible refine seq_gw' (fitsS_c (Sl.ext t5.out g8.grown) (Sl.ext t7.out g8.grown)) ?_); rw [hfXY.out]; intro g9))
          go_returns
          exact ⟨by first | rfl | simp, X7.out.trans g9.grown⟩
        · have hE3 : (E3 != 0) = true := by rw [bne_iff_ne]; exact hj0
          clear hfj hj0 hrj
          go_enter Try.func6, Try.ntmps6
          go_wp2_with (first | (go_at_call 18; (with_reducible refine seq_gw f1.out ?_); intro g1; clear f1) | (go_at_call 24; refine (hp.out _ g1.grown).mono ?_; rintro ee w2 ⟨u2, rfl, o2, x2⟩; have X2 := hide (g1.grown.trans x2); obtain ⟨P2, c2, rfl⟩ := own_form o2) | (go_at_call 22; refine (hj.out _ X2.out).mono ?_; rintro ee w5 ⟨u5, rfl, o5, x5⟩; have X5 := hide (X2.out.trans x5)) | (go_at_call 18; (with_reducible refine seq_gw (f3.out _ X5.out) ?_); intro g6; clear f3) | (go_at_call 9; (with_reducible refine seq_gw' (schLive_c _) ?_); intro g9))
          go_returns
          exact ⟨rfl, X5.out.trans g9.grown⟩
  · have hE1 : (E1 == 0) = false := by rw [beq_eq_false_iff_ne]; exact hp0
    clear hfp hrp hp0
    cases F3
    · go_enter Try.func6, Try.ntmps6
      go_wp2_with (first | (go_at_call 18; (with_reducible refine seq_gw f1.out ?_); intro g1; clear f1) | (go_at_call 24; refine (hp.out _ g1.grown).mono ?_; rintro ee w2 ⟨u2, rfl, o2, x2⟩; have X2 := hide (g1.grown.trans x2); obtain ⟨P2, c2, rfl⟩ := own_form o2) | (go_at_call 22; refine (hj.out _ X2.out).mono ?_; rintro ee w5 ⟨u5, rfl, o5, x5⟩; have X5 := hide (X2.out.trans x5)) | (go_at_call 18; (with_reducible refine seq_gw (f3.out _ X5.out) ?_); intro g6; clear f3) | (go_at_call 9; (with_reducible refine seq_gw' (schLive_c _) ?_); intro g9))
      go_returns
      exact ⟨rfl, X5.out.trans g9.grown⟩
    · by_cases hj0 : E3 = 0
      · obtain ⟨e4, hfXY⟩ := hfj rfl hj0
        subst hj0
        subst e4
        replace hfXY := hide hfXY
        clear hfj
        go_enter Try.func6, Try.ntmps6
        go_wp2_with (first | (go_at_call 18; (with_reducible refine seq_gw f1.out ?_); intro g1; clear f1) | (go_at_call 24; refine (hp.out _ g1.grown).mono ?_; rintro ee w2 ⟨u2, rfl, o2, x2⟩; have X2 := hide (g1.grown.trans x2); obtain ⟨P2, c2, rfl⟩ := own_form o2) | (go_at_call 22; refine (hj.out _ X2.out).mono ?_; rintro ee w5 ⟨u5, rfl, o5, x5⟩; have X5 := hide (X2.out.trans x5)) | (go_at_call 18; (with_reducible refine seq_gw (f3.out _ X5.out) ?_); intro g6; clear f3) | (go_at_call 27; refine (hrj.out _ (X5.out.trans g6.grown)).mono ?_; rintro ee w7 ⟨u7, rfl, o7, x7⟩; have X7 := hide ((X5.out.trans g6.grown).trans x7); have t5 := hide (Sl.ext (own_cw (S := []) o5 (by simp)) (g6.grown.trans x7)); have t7 := hide (own_rw (S := []) o7 (by simp))) | (go_at_call 9; (with_reducible refine seq_gw (schLive_c _) ?_); intro g8) | (go_at_call 18; (with_reducible refine seq_gw' (fitsS_c (Sl.ext t5.out g8.grown) (Sl.ext t7.out g8.grown)) ?_); rw [hfXY.out]; intro g9))
        go_returns
        exact ⟨by first | rfl | simp, X7.out.trans g9.grown⟩
      · have hE3 : (E3 != 0) = true := by rw [bne_iff_ne]; exact hj0
        clear hfj hj0 hrj
        go_enter Try.func6, Try.ntmps6
        go_wp2_with (first | (go_at_call 18; (with_reducible refine seq_gw f1.out ?_); intro g1; clear f1) | (go_at_call 24; refine (hp.out _ g1.grown).mono ?_; rintro ee w2 ⟨u2, rfl, o2, x2⟩; have X2 := hide (g1.grown.trans x2); obtain ⟨P2, c2, rfl⟩ := own_form o2) | (go_at_call 22; refine (hj.out _ X2.out).mono ?_; rintro ee w5 ⟨u5, rfl, o5, x5⟩; have X5 := hide (X2.out.trans x5)) | (go_at_call 18; (with_reducible refine seq_gw (f3.out _ X5.out) ?_); intro g6; clear f3) | (go_at_call 9; (with_reducible refine seq_gw' (schLive_c _) ?_); intro g9))
        go_returns
        exact ⟨rfl, X5.out.trans g9.grown⟩

theorem own : ownKnob Try.prog.godebug = none := by kernel_rfl
theorem laidOut : laidOutB Try.prog = true := by kernel_rfl
set_option maxRecDepth 100000 in
theorem lifted (os : Os) (started : os.Started) (H : Type) (enc : TypeId × Value → H) :
    ReturnsInHanded {} Try.checked os 6 .any (Rows.schemaFitsSpec.pre6 enc Try.prog Try.f6 Rows.schemaFitsRow.domain false) (Rows.schemaFitsSpec.post enc Try.prog Try.f6 false true false false) := by
  refine returnsInHanded_of_change_sized (C := Try.checked) own started (by kernel_rfl) Try.func6
    (ChangeSpec.witness6 (enc := enc) (C := Try.checked) false ⟨#[], #[.slice none 0 0, .slice none 0 0, .slice none 0 0, .slice none 0 0, .slice none 0 0], []⟩ 8 (by kernel_rfl) (by kernel_rfl) (by kernel_rfl) (by kernel_rfl)) ?_
  intro W base args ds gs before hval0 hW hcnd hsz0 _
  have hsz : (DataW.weightsEach Try.prog (Try.f6.params.toList ++ Rows.schemaFitsSpec.plain.varTypes Try.prog) (ds ++ gs)).all (· ≤ reachBytes) = true := hsz0
  clear hsz0
  have hval : ∀ (j : Nat) t v, Try.f6.params[j]? = some t → args[j]? = some v → Value.okWide Try.prog W .any base t v := hval0
  have hW' := hW
  obtain ⟨p, q, hA0, hV, rfl, hfz, hnd⟩ := hW
  have hA : DataW.TrodAll enc Try.prog W 0 (fun _ => true) true Try.f6.params.toList args.toList ds p := hA0
  rw [Try.params6] at hA hval hsz
  obtain ⟨v0, vs0, d0, ds0, p0, q0, hargs, rfl, rfl, h0, r0⟩ := trodAll_cons hA
  obtain ⟨v1, vs1, d1, ds1, p1, q1, rfl, rfl, rfl, h1, r1⟩ := trodAll_cons r0
  obtain ⟨v2, vs2, d2, ds2, p2, q2, rfl, rfl, rfl, h2, r2⟩ := trodAll_cons r1
  obtain ⟨v3, vs3, d3, ds3, p3, q3, rfl, rfl, rfl, h3, r3⟩ := trodAll_cons r2
  obtain ⟨v4, vs4, d4, ds4, p4, q4, rfl, rfl, rfl, h4, r4⟩ := trodAll_cons r3
  obtain ⟨rfl, rfl, rfl⟩ := trodAll_nil r4
  obtain rfl : args = #[v0, v1, v2, v3, v4] := by cases args; simp_all
  obtain ⟨rfl, rfl⟩ := trodVars_none hV
  have k0 := h0
  have lt0 : ∀ x ∈ p0, x.block < W.heap.size := by obtain ⟨m, hm⟩ := k0; exact DataW.trod_lt m _ _ _ hm
  obtain ⟨A0, n0, c0, rfl⟩ := okWide_slice Try.underlying25 (hval 0 25 v0 rfl rfl)
  have ⟨m0, hm0⟩ := h0
  obtain ⟨a, la, ha⟩ := open_cols Try.underlying25 Try.underlying34 (by kernel_rfl) rfl rfl (by kernel_rfl) (by kernel_rfl) Try.underlying9 Try.underlying32 hm0
  have za : a.length * 24 ≤ 140737488351232 := by rw [la]; exact sized_elems hsz (j := 0) (t := 25) (e := 34) rfl rfl Try.underlying25 (by kernel_rfl)
  have k1 := h1
  have lt1 : ∀ x ∈ p1, x.block < W.heap.size := by obtain ⟨m, hm⟩ := k1; exact DataW.trod_lt m _ _ _ hm
  obtain ⟨A1, n1, c1, rfl⟩ := okWide_slice Try.underlying25 (hval 1 25 v1 rfl rfl)
  have ⟨m1, hm1⟩ := h1
  obtain ⟨b, lb, hb⟩ := open_cols Try.underlying25 Try.underlying34 (by kernel_rfl) rfl rfl (by kernel_rfl) (by kernel_rfl) Try.underlying9 Try.underlying32 hm1
  have zb : b.length * 24 ≤ 140737488351232 := by rw [lb]; exact sized_elems hsz (j := 1) (t := 25) (e := 34) rfl rfl Try.underlying25 (by kernel_rfl)
  have k2 := h2
  have lt2 : ∀ x ∈ p2, x.block < W.heap.size := by obtain ⟨m, hm⟩ := k2; exact DataW.trod_lt m _ _ _ hm
  obtain ⟨A2, n2, c2, rfl⟩ := okWide_slice Try.underlying27 (hval 2 27 v2 rfl rfl)
  have ⟨m2, hm2⟩ := h2
  obtain ⟨c, lc, hc, qc⟩ := open_row Try.underlying27 Try.underlying68 (by kernel_rfl) rfl rfl rfl (by kernel_rfl) (by kernel_rfl) (by kernel_rfl) Try.underlying32 Try.underlying3 Try.underlying9 hm2
  have zc : c.length * 32 ≤ 140737488351232 := by rw [lc]; exact sized_elems hsz (j := 2) (t := 27) (e := 68) rfl rfl Try.underlying27 (by kernel_rfl)
  have k3 := h3
  have lt3 : ∀ x ∈ p3, x.block < W.heap.size := by obtain ⟨m, hm⟩ := k3; exact DataW.trod_lt m _ _ _ hm
  obtain ⟨A3, n3, c3, rfl⟩ := okWide_slice Try.underlying27 (hval 3 27 v3 rfl rfl)
  have ⟨m3, hm3⟩ := h3
  obtain ⟨d, ld, hd, qd⟩ := open_row Try.underlying27 Try.underlying68 (by kernel_rfl) rfl rfl rfl (by kernel_rfl) (by kernel_rfl) (by kernel_rfl) Try.underlying32 Try.underlying3 Try.underlying9 hm3
  have zd : d.length * 32 ≤ 140737488351232 := by rw [ld]; exact sized_elems hsz (j := 3) (t := 27) (e := 68) rfl rfl Try.underlying27 (by kernel_rfl)
  have k4 := h4
  have lt4 : ∀ x ∈ p4, x.block < W.heap.size := by obtain ⟨m, hm⟩ := k4; exact DataW.trod_lt m _ _ _ hm
  obtain ⟨A4, n4, c4, rfl⟩ := okWide_slice Try.underlying36 (hval 4 36 v4 rfl rfl)
  have ⟨m4, hm4⟩ := h4
  obtain ⟨i, li, hi⟩ := open_ic Try.underlying36 Try.underlying3 (by kernel_rfl) hm4
  have zi : i.length * 8 ≤ 140737488351232 := by rw [li]; exact sized_elems hsz (j := 4) (t := 36) (e := 3) rfl rfl Try.underlying36 (by kernel_rfl)
  clear hA0 hval0
  refine (walk a b c d i _ _ _ _ _ W ha hb hc hd hi).mono fun e W' ⟨he, bel⟩ => ?_
  subst he
  exact ⟨_, rfl, _, _, _, [], _, [], hW', trodAll_mk1 (shut_bool Try.underlying4 _), (trodAll_cons_mk (Below.trod laidOut (by kernel_rfl) (of_decide_eq_true (by kernel_rfl)) k0 bel lt0) (trodAll_cons_mk (Below.trod laidOut (by kernel_rfl) (of_decide_eq_true (by kernel_rfl)) k1 bel lt1) (trodAll_cons_mk (Below.trod laidOut (by kernel_rfl) (of_decide_eq_true (by kernel_rfl)) k2 bel lt2) (trodAll_cons_mk (Below.trod laidOut (by kernel_rfl) (of_decide_eq_true (by kernel_rfl)) k3 bel lt3) (trodAll_cons_mk (Below.trod laidOut (by kernel_rfl) (of_decide_eq_true (by kernel_rfl)) k4 bel lt4) trodAll_mk0))))), rfl, bel.frame _, fun h => by cases h⟩

theorem over : Rows.schemaFitsRow.holds Try.pinned (OpenSpec.ofChange Rows.schemaFitsSpec) :=
  OpenClaim.holds_of_wide 6 Try.f6 rfl rfl rfl rfl rfl rfl rfl ⟨rfl, rfl, rfl, rfl, rfl⟩ rfl rfl rfl rfl rfl (by kernel_rfl) Try.func6 (by kernel_rfl)
    (of_decide_eq_true (by kernel_rfl)) (by unfold Func.isWrapper; first | (rw [if_pos (by decide +kernel)]; kernel_rfl) | (rw [if_neg (by decide +kernel)]; exact ⟨rfl, rfl⟩))
    (fun os started H enc _ => lifted os started H enc)

theorem schemaFits_holds : Rows.SchemaFitsSaid := over
end Go.Proofs.Ytbapkkijfmdcoaa.schemaFits
