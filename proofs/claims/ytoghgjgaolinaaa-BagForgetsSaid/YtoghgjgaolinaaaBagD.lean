/-
  A helper of ours: no claim of its own. Layer 12 (bag): others take the place of their rows' functions, by the code.
-/
import Derived.Test.YtoghgjgaolinaaaBagB
import Derived.Test.YtoghgjgaolinaaaStepC
set_option linter.unusedVariables false
set_option linter.unusedSimpArgs false
namespace Go.Proofs.Ytoghgjgaolinaaa
open Go.RowKit
attribute [local go_sem] GW.cell GW.frozen In.eq_true In.le_true In.ne In.ne' In.ne_add In.ne_add' In.lt_add Upto.le_true Upto.le_add Upto.lt_add
set_option maxHeartbeats 2000000 in
theorem bagLate_c (kf : List Vl → List UInt8) (S : List Nat) (B mb n : Nat) (mk : Int) (T : List Fe) (q : List Vl) (j : Jp) (v : Value) (w : World) (h : Bg kf w S B mb n mk T) (hq : Rw w [] v q) : Calls Try.prog 26 #[.pointer (some ⟨B, 0, none⟩), em v j] w fun e w' => e = .returned (.bool (decide (j.1 < mk))) ∧ Ext w w' := by
  obtain ⟨ja, jn⟩ := j
  obtain ⟨A, cap, rfl⟩ := rw_val hq
  have c0 := h.1.cell 0 rfl
  have hlt := h.1.lt
  haveI : In B w := ⟨hlt⟩
  clear h hq
  go_enter Try.func26, Try.ntmps26
  go_wp2_with fail
  refine wp_region_gw (by kernel_rfl) (by kernel_rfl) ?_
  repeat (go_big_quiet_step (fail))
  refine wpQuiet_nil ?_
  intro g
  go_wp2_with fail
  go_returns
  exact ⟨rfl, ((Ext.refl w).alloc _).trans g.grown⟩
def belT (T : List Fe) : Bool := T.any fun p => decide (leV p.2.2.2 < 0)
set_option maxHeartbeats 8000000 in
set_option maxRecDepth 100000 in
theorem areBelow_c (kf : List Vl → List UInt8) (S : List Nat) (mb n : Nat) (T : List Fe) (w : World) (h : Fm kf w S mb n T) : Calls Try.prog 29 #[.map (some mb)] w fun e w' => e = .returned (.bool (belT T)) ∧ Ext w w' := by
  have hM := hide h.1
  have hT := hide h.2
  clear h
  obtain ⟨R, hR⟩ : ∃ R, R = belT T := ⟨_, rfl⟩
  rw [← hR]
  replace hR := hide hR
  go_enter Try.func29, Try.ntmps29
  go_wp2_with (at_range; refine wpl_range rfl (.tmp 5) rfl rfl fnKey Try.underlying66 hM.out ?_; intro w1 hr1 hg1 hs1)
  go_frame
  have hX1 := hide (ext_grown (Ext.refl w) hg1 (by simp))
  obtain ⟨r, hrr⟩ : ∃ r, r = w.heap.size := ⟨_, rfl⟩
  rw [← hrr] at hr1 ⊢
  have hrle : w.heap.size ≤ r := by omega
  replace hr1 := hide hr1
  clear hg1 hs1
  replace hrr := hide hrr
  go_loopg [4] T.length (fun gh z wr => ∃ (L : List Fe), L.length = gh ∧ Hid (R = belT L) ∧ Hid (Rgv wr Try.prog 9 (fent kf) mb r n T L) ∧ Hid (Ext w wr))
  case atStart => exact ⟨T, rfl, hR, hr1, hX1⟩
  case round =>
    clear hr1 hX1
    obtain ⟨L, hL, hy, hRv, hX⟩ := hrel
    go_wp2_with (at_next; refine wpl_next rfl (.tmp 6) rfl rfl fnKey hRv.out ?_ ?_)
    · intro hl0
      subst hl0
      clear hRv hT
      go_wp2_with fail
      go_returns
      exact ⟨by rw [hy.out]; rfl, hX.out⟩
    · intro key vr vj q f L' w1 hkey hq hp hR1 hg1 hs1 hen
      have hE : (fent kf (vr, vj, q, f)).2 = .agg #[vr, vj] := rfl
      rw [hE] at hen ⊢
      obtain ⟨hrw, hjw⟩ := hT.out _ hq
      simp only at hrw hjw
      have hX1 := hide (ext_grown hX.out hg1 (fun z hz => by obtain rfl := Option.some.inj hz; exact hrle))
      have hlen : L'.length + 1 = L.length := by rw [hp.length_eq]; rfl
      have hbel : Hid (R = (decide (leV f < 0) || belT L')) := by
        show _ = _
        rw [hy.out]
        unfold belT
        rw [any_permM hp, List.any_cons]
      obtain ⟨VA, vcap, rfl⟩ := (show ∃ A cap, vr = .slice A q.length cap by obtain ⟨A, cap, e, _⟩ := hrw; exact ⟨A, cap, e⟩)
      obtain ⟨JA, jcap, rfl, hjl, hjm, -⟩ := jw_form hjw
      have hlv := hide (fun w' (hx : Ext w w') => stepLeast_c f (.slice JA f.length jcap) w' ((Sl.less hjw (S' := []) (by simp)).ext hx))
      obtain ⟨z, hz⟩ : ∃ z, z = leV f := ⟨_, rfl⟩
      rw [← hz] at hlv hbel
      have hXa := hide (hX1.out.alloc (.cells #[.slice VA q.length vcap, .slice JA f.length jcap] 78))
      have hR2 := hide (hR1.kept (World.grownBy_alloc w1 (.cells #[.slice VA q.length vcap, .slice JA f.length jcap] 78) none) (by simp) (by simp))
      replace hz := hide hz
      clear hkey hq hp hR1 hg1 hs1 hrw hjw hRv hT hE hy
      by_cases hneg : z < 0
      · have d1 : decide (z < 0) = true := decide_eq_true hneg
        rw [d1, Bool.true_or] at hbel
        go_wp2_with (go_at_call 65; (with_reducible refine seq_gw (hlv.out _ hXa.out) ?_); intro g)
        go_returns
        exact ⟨by rw [hbel.out]; rfl, hXa.out.trans g.grown⟩
      · have d1 : decide (z < 0) = false := decide_eq_false hneg
        rw [d1, Bool.false_or] at hbel
        go_wp2_with (go_at_call 65; (with_reducible refine seq_gw (hlv.out _ hXa.out) ?_); intro g)
        go_roundg L'.length
        case measure => omega
        case rel => exact ⟨L', rfl, hbel, hR2.out.kept (ext_by g.grown) (by simp) (by simp), hXa.out.trans g.grown⟩
end Go.Proofs.Ytoghgjgaolinaaa
set_option linter.unusedVariables false
set_option linter.unusedSimpArgs false
namespace Go.Proofs.Ytoghgjgaolinaaa
open Go.RowKit
attribute [local go_sem] GW.cell GW.frozen In.eq_true In.le_true In.ne In.ne' In.ne_add In.ne_add' In.lt_add Upto.le_true Upto.le_add Upto.lt_add
/-- A bag's entries with those of D in place. -/
def updT (kf : List Vl → List UInt8) (T D : List Fe) : List Fe := (T.filter fun q => !D.any fun p => (fent kf q).1.sameKey (fent kf p).1) ++ D.filter fun p => !p.2.2.2.isEmpty
section
variable {kf : List Vl → List UInt8} {T D : List Fe} {p : Fe}
theorem upd_nil : updT kf T [] = T := by
  unfold updT
  simp
theorem upd_del (hne : ∀ q ∈ D, (fent kf q).1.sameKey (fent kf p).1 = false) : delM (fent kf) (updT kf T D) (fent kf p).1 = (T.filter fun q => !(D ++ [p]).any fun p => (fent kf q).1.sameKey (fent kf p).1) ++ D.filter fun p => !p.2.2.2.isEmpty := by
  unfold delM updT
  rw [List.filter_append, List.filter_filter]
  congr 1
  · refine List.filter_congr fun q _ => ?_
    rw [List.any_append]
    simp only [List.any_cons, List.any_nil, Bool.or_false, Bool.not_or]
    rw [Bool.and_comm]
  · rw [List.filter_eq_self]
    intro q hq
    rw [hne q (List.mem_filter.1 hq).1]
    rfl
theorem upd_none (hne : ∀ q ∈ D, (fent kf q).1.sameKey (fent kf p).1 = false) (h0 : p.2.2.2.isEmpty = true) : delM (fent kf) (updT kf T D) (fent kf p).1 = updT kf T (D ++ [p]) := by
  rw [upd_del hne]
  unfold updT
  rw [List.filter_append, List.filter_cons, h0]
  simp
theorem upd_some (hne : ∀ q ∈ D, (fent kf q).1.sameKey (fent kf p).1 = false) (h0 : p.2.2.2.isEmpty = false) : (putM (fent kf) (updT kf T D) p).Perm (updT kf T (D ++ [p])) := by
  unfold putM
  rw [upd_del hne]
  have e : updT kf T (D ++ [p]) = ((T.filter fun q => !(D ++ [p]).any fun p => (fent kf q).1.sameKey (fent kf p).1) ++ D.filter fun p => !p.2.2.2.isEmpty) ++ [p] := by
    unfold updT
    rw [List.filter_append (l₁ := D), List.append_assoc]
    congr 2
    rw [List.filter_cons, h0]
    simp
  rw [e]
  exact (List.perm_append_singleton p _).symm
end
set_option maxHeartbeats 8000000 in
set_option maxRecDepth 100000 in
theorem bagPut_c (kf : List Vl → List UInt8) (S : List Nat) (B mb n ob n2 : Nat) (mk : Int) (T U : List Fe) (hn : n + U.length < 1000000000) (hmo : mb ≠ ob) (w : World) (h : Bg kf w S B mb n mk T) (hB : B ≠ mb) (hU : Fm kf w S ob n2 U) : Calls Try.prog 30 #[.pointer (some ⟨B, 0, none⟩), .map (some ob)] w fun e w' => e = .returned (.tuple #[]) ∧ Mv w' Try.prog 9 (fent kf) mb (n + U.length) (updT kf T U) ∧ Fr [mb] w w' := by
  have c0 := h.1.cell 1 rfl
  have hO := hide h.1
  have hM := hide h.2.1
  have hMU := hide hU.1
  have hTU := hide hU.2
  have hml := h.2.1.lt
  have hap := hide ((hU.1.apart fnKey).1)
  clear h hU c0
  go_enter Try.func30, Try.ntmps30
  go_wp2_with (at_range; refine wpl_range rfl (.tmp 6) rfl rfl fnKey Try.underlying66 hMU.out ?_; intro w1 hr1 hg1 hs1)
  go_frame
  have hX1 := ext_grown (Ext.refl w) hg1 (by simp)
  obtain ⟨r, hrr⟩ : ∃ r, r = w.heap.size := ⟨_, rfl⟩
  rw [← hrr] at hr1 ⊢
  have hrle : w.heap.size ≤ r := by omega
  have hM1 := hide (show Mv w1 Try.prog 9 (fent kf) mb (n + 0) (updT kf T []) by rw [upd_nil]; exact hM.out.kept (ext_by hX1) (by simp))
  have hF1 := hide (Fr.of_ext (S := [mb]) hX1)
  replace hr1 := hide hr1
  clear hg1 hs1 hX1
  replace hrr := hide hrr
  go_loopg [4] U.length (fun gh z wr => ∃ (D L : List Fe), L.length = gh ∧ D.length + L.length = U.length ∧ Hid (U.Perm (D ++ L)) ∧ Hid (Mv wr Try.prog 9 (fent kf) mb (n + D.length) (updT kf T D)) ∧ Hid (Rgv wr Try.prog 9 (fent kf) ob r n2 U L) ∧ Hid (Fr [mb] w wr))
  case atStart => exact ⟨[], U, rfl, by simp, List.Perm.refl _, hM1, hr1, hF1⟩
  case round =>
    clear hr1 hM1 hF1
    obtain ⟨D, L, hL, hDL, hp0, hMv, hRv, hF⟩ := hrel
    have cB := (hO.out.fr hF.out (by simp; exact hB)).cell 1 rfl
    have cBl := block_lt_of_cell cB
    haveI : In B wr := ⟨cBl⟩
    go_wp2_with (at_next; refine wpl_next rfl (.tmp 7) rfl rfl fnKey hRv.out ?_ ?_)
    · intro hl0
      subst hl0
      clear hRv hTU
      go_wp2_with fail
      go_returns
      refine ⟨rfl, ?_, hF.out⟩
      have hDp : D.Perm U := by have := hp0.out; rw [List.append_nil] at this; exact this.symm
      have hm := hMv.out
      rw [hDp.length_eq] at hm
      refine hm.perm ?_
      unfold updT
      refine List.Perm.append (List.Perm.of_eq (List.filter_congr fun q _ => ?_)) (hDp.filter _)
      rw [any_permM hDp]
    · intro key vr vj q f L' w4 hkey hq hp hR4 hg4 hs4 hen
      have hE : (fent kf (vr, vj, q, f)).2 = .agg #[vr, vj] := rfl
      rw [hE] at hen ⊢
      obtain ⟨hrw, hjw⟩ := hTU.out _ hq
      simp only at hrw hjw
      have hlen : L'.length + 1 = L.length := by rw [hp.length_eq]; rfl
      have hF4 := hF.out.grown hg4 (fun z hz => by obtain rfl := Option.some.inj hz; exact .inr hrle)
      have hmr : mb ≠ r := by omega
      have hM4 := hMv.out.kept hg4 (by simpa using hmr)
      have cB4 := (hO.out.fr hF4 (by simp; exact hB)).cell 1 rfl
      have cB4l := block_lt_of_cell cB4
      haveI : In B w4 := ⟨cB4l⟩
      have hro : ob ≠ r := by have := hMU.out.lt; omega
      have hpD := hp0.out.trans ((List.Perm.refl D).append hp)
      have hne := hide (show ∀ x ∈ D, (fent kf x).1.sameKey (fent kf (vr, vj, q, f)).1 = false from fun x hx => by
        cases hs : (fent kf x).1.sameKey (fent kf (vr, vj, q, f)).1
        · rfl
        · exfalso
          have h1 := (hpD.pairwise_iff (R := fun p q : Fe => (fent kf p).1 ≠ (fent kf q).1) (fun {a b} hab => Ne.symm hab)).1 hap.out
          rw [List.pairwise_append] at h1
          exact h1.2.2 x hx _ (by simp) (WideAt.sameKey_eq hs))
      have hpn := hide (show U.Perm ((D ++ [(vr, vj, q, f)]) ++ L') by rw [List.append_assoc]; exact hpD)
      obtain ⟨VA, vcap, rfl⟩ := (show ∃ A cap, vr = .slice A q.length cap by obtain ⟨A, cap, e, _⟩ := hrw; exact ⟨A, cap, e⟩)
      obtain ⟨JA, jcap, rfl, hjl, hjm, -⟩ := jw_form hjw
      have hA := World.grownBy_alloc w4 (.cells #[.slice VA q.length vcap, .slice JA f.length jcap] 78) none
      have hMa := hide (hM4.kept hA (by simp))
      have hRa := hide (hR4.kept hA (by simp) (by simp))
      have hFa := hide (hF4.alloc (.cells #[.slice VA q.length vcap, .slice JA f.length jcap] 78))
      have hnb : n + D.length < maxLen := by unfold maxLen; omega
      have hkk := hide hkey
      clear hkey hq hp hp0 hpD hR4 hg4 hs4 hrw hjw hRv hTU hE hA hM4 hF4 hMv cB cBl hMU hM
      by_cases hf0 : f.length = 0
      · have hfe : f.isEmpty = true := by rw [List.isEmpty_iff_length_eq_zero]; exact hf0
        rw [hf0] at hen hMa hRa hFa ⊢
        go_wp2_with (at_delete; refine wpl_mdel rfl (.tmp 20) (.tmp 21) rfl rfl rfl fnKey Try.underlying66 hMa.out hkk.out ?_; intro w5 hM5 hg5)
        first | go_frame | skip
        go_roundg L'.length
        case measure => omega
        case rel => exact ⟨D ++ [(.slice VA q.length vcap, .slice JA f.length jcap, q, f)], L', rfl, by rw [List.length_append, List.length_singleton]; omega, hpn, (by rw [← upd_none hne.out hfe, List.length_append]; obtain ⟨es, h1, h2⟩ := hM5; exact ⟨es, h1.mono (by simp), h2⟩), hRa.out.kept hg5 (by simpa using Ne.symm hmo) (by simpa using Ne.symm hmr), hFa.out.grown hg5 (fun z hz => by obtain rfl := Option.some.inj hz; exact .inl (by simp))⟩
      · have hfe : f.isEmpty = false := by cases f with | nil => exact absurd rfl hf0 | cons _ _ => rfl
        have b0 : ((f.length : Int) == 0) = false := by rw [beq_eq_false_iff_ne]; omega
        go_wp2_with fail
        refine wp_region_gw_tail 6 (by kernel_rfl) (by kernel_rfl) ?_
        simp only [List.take_succ_cons, List.take_zero, List.drop_succ_cons, List.drop_zero]
        repeat (go_big_quiet_step (fail))
        refine wpQuiet_nil ?_
        intro g
        have hMg := hide (hMa.out.kept (ext_by g.grown) (by simp))
        have hRg := hide (hRa.out.kept (ext_by g.grown) (by simp) (by simp))
        have hFg := hide (hFa.out.then (S' := []) (Fr.of_ext g.grown) (by simp))
        go_wp2_with (at_mapUpdate; refine wpl_mstore rfl (.tmp 25) (.tmp 26) (.tmp 27) rfl (.slice VA q.length vcap, .slice JA f.length jcap, q, f) rfl rfl rfl fnKey Try.underlying66 hnb hMg.out hkk.out ?_; intro w5 hM5 hg5)
        first | go_frame | skip
        go_roundg L'.length
        case measure => omega
        case rel => exact ⟨D ++ [(.slice VA q.length vcap, .slice JA f.length jcap, q, f)], L', rfl, by rw [List.length_append, List.length_singleton]; omega, hpn, (by rw [List.length_append, List.length_singleton, ← Nat.add_assoc]; exact hM5.perm (upd_some hne.out hfe)), hRg.out.kept hg5 (by simpa using Ne.symm hmo) (by simpa using Ne.symm hmr), hFg.out.grown hg5 (fun z hz => by obtain rfl := Option.some.inj hz; exact .inl (by simp))⟩
end Go.Proofs.Ytoghgjgaolinaaa
