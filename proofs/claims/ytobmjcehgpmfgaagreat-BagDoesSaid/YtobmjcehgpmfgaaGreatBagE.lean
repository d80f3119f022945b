/-
  A helper of ours: no claim of its own. Layer 12 (bag): what is ahead of a place is forgotten, by the code.
-/
import Derived.Test.YtobmjcehgpmfgaaGreatBagD
set_option linter.unusedVariables false
set_option linter.unusedSimpArgs false
namespace Go.Proofs.YtobmjcehgpmfgaaGreat
open Go.RowKit
attribute [local go_sem] GW.cell GW.frozen In.eq_true In.le_true In.ne In.ne' In.ne_add In.ne_add' In.lt_add Upto.le_true Upto.le_add Upto.lt_add
attribute [-go_sem] sliced
attribute [local go_sem] sliced_eq
theorem ps_take (l : List Jp) : ∀ n, (ps l).take (n * 2) = ps (l.take n) := by
  induction l with
  | nil => intro n; simp [ps]
  | cons p r ih =>
    intro n
    rcases n with _ | n
    · simp [ps]
    · rw [show (n + 1) * 2 = n * 2 + 1 + 1 by omega]
      simpa [ps] using ih n
theorem jw_drop {w : World} {S : List Nat} {A : Option Addr} {cap : Nat} {l : List Jp} (h : Jw w S (.slice A l.length cap) l) (k : Nat) (hk : k ≤ l.length) : Jw w S (.slice (cutA A k cap 2) (l.length - k) (cap - k)) (l.drop k) := by
  obtain ⟨_, c, e, h1, h2, h3, h4⟩ := id h
  simp only [Value.slice.injEq] at e
  obtain ⟨rfl, -, rfl⟩ := e
  have hc := h.cut k l.length cap hk (Nat.le_refl _) h1 (Nat.le_refl _)
  rw [sliced_eq, List.take_of_length_le (by rw [ps_length]; omega), ps_drop] at hc
  unfold Jw
  rw [List.length_drop]
  exact hc
theorem jw_take {w : World} {S : List Nat} {A : Option Addr} {cap : Nat} {l : List Jp} (h : Jw w S (.slice A l.length cap) l) (k : Nat) (hk : k ≤ l.length) : Jw w S (.slice (cutA A 0 cap 2) k cap) (l.take k) := by
  obtain ⟨_, c, e, h1, h2, h3, h4⟩ := id h
  simp only [Value.slice.injEq] at e
  obtain ⟨rfl, -, rfl⟩ := e
  have hl : (l.take k).length = k := by rw [List.length_take]; omega
  have hc := h.cut 0 k k (Nat.zero_le _) hk (Nat.le_refl _) (by omega)
  have hc := h.cut 0 k cap (Nat.zero_le _) hk (by omega) (Nat.le_refl _)
  rw [sliced_eq, Nat.zero_mul, List.drop_zero, ps_take] at hc
  unfold Jw
  rw [hl]
  exact hc
theorem cut_at {l : List Jp} {k : Nat} {t : Int} (hl : ∀ j ∈ l.take k, j.1 < t) (hx : ∀ x, l[k]? = some x → t ≤ x.1) : cutL l t = l.take k ∧ cutR l t = l.drop k := by
  unfold cutL cutR
  induction l generalizing k with
  | nil => simp
  | cons a r ih =>
    rcases k with _ | k
    · have h := hx a rfl
      rw [List.takeWhile_cons, List.dropWhile_cons, if_neg (by simp; omega), if_neg (by simp; omega)]
      exact ⟨rfl, rfl⟩
    · have h := hl a (by simp)
      obtain ⟨i1, i2⟩ := ih (k := k) (fun j hj => hl j (by simp [hj])) (fun x hx' => hx x (by simpa using hx'))
      rw [List.takeWhile_cons, List.dropWhile_cons, if_pos (by simpa using h), if_pos (by simpa using h), i1, i2]
      exact ⟨rfl, rfl⟩
set_option maxHeartbeats 4000000 in
set_option maxRecDepth 100000 in
theorem cut_c (l : List Jp) (hb : mayJ l = true) (t : Int) (v : Value) (w : World) (h : Jw w [] v l) : Calls Tryz.prog 148 #[v, .int .i64 t] w fun e w' => ∃ v1 v2, e = .returned (.tuple #[v1, v2, .int .i64 (js (cutL l t))]) ∧ (∀ W, Jw W [] v l → Jw W [] v1 (cutL l t) ∧ Jw W [] v2 (cutR l t)) ∧ Ext w w' := by
  obtain ⟨A, cap, rfl, hl, hm, hat⟩ := jw_form h
  unfold maxLen at hm
  replace hat := hide hat
  clear h
  have hnet := hide (mayJ_net hb)
  have hn := hide (show l.length ≤ 4096 by have := mayJ_len hb; omega)
  have hnI : (l.length : Int) ≤ 4096 := by have := hn.out; omega
  replace hb := hide hb
  go_enter Tryz.func148, Tryz.ntmps148
  go_wp2_with fail
  go_loopg [6, 7] l.length (fun gh s i wr => ∃ (k : Nat) (z : Int), i = .int .i64 k ∧ s = .int .i64 z ∧ k + gh = l.length ∧ Hid (z = js (l.take k)) ∧ Hid (∀ j ∈ l.take k, j.1 < t) ∧ Ext w wr)
  case atStart => exact ⟨0, 0, rfl, rfl, by omega, rfl, (by intro j hj; simp at hj), Ext.refl w⟩
  case round =>
    obtain ⟨k, z, rfl, rfl, hk, hz, hlo, hX⟩ := hrel
    by_cases hlt : k < l.length
    · obtain ⟨x, hx⟩ : ∃ x, l[k]? = some x := ⟨_, List.getElem?_eq_getElem hlt⟩
      obtain ⟨b, o, rfl, -, hbl, c0, c1⟩ := hat.out k x hx
      have k0 := jcell_later hX c0
      have k1 := jcell_later hX c1
      have hbr : b < wr.heap.size := block_lt_of_cell k0
      obtain ⟨z1, z2⟩ := (show -4294967296 ≤ z ∧ z ≤ 4294967296 by have := hz.out; rw [this]; exact js_small hnet.out hn.out k)
      obtain ⟨n1, n2⟩ := hnet.out x (List.mem_of_getElem? hx)
      by_cases hle : x.1 < t
      · have hnx := js_next hx
        rw [← hz.out] at hnx
        have hlo' : Hid (∀ j ∈ l.take (k + 1), j.1 < t) := by
          intro j hj
          rw [take_snoc hx] at hj
          rcases List.mem_append.1 hj with hj | hj
          · exact hlo.out j hj
          · simp only [List.mem_singleton] at hj; subst hj; exact hle
        clear c0 c1 hx hz hlo
        obtain ⟨xp, xn⟩ := x
        simp only at n1 n2 hnx k0 k1 hle
        replace hnx := hide hnx
        go_wp2_with fail
        go_roundg (l.length - (k + 1))
        case measure => omega
        case rel => exact ⟨k + 1, z + xn, by go_num, by go_num, by omega, hnx.out.symm, hlo', hX⟩
      · obtain ⟨q1, q2⟩ := cut_at hlo.out (fun y hy => by rw [hx] at hy; cases hy; omega)
        have e1 : Hid (js (cutL l t) = z) := by show _ = _; rw [q1, ← hz.out]
        have hq1 := hide q1
        have hq2 := hide q2
        have d : decide (x.1 < t) = false := by rw [decide_eq_false_iff_not]; exact hle
        have hkI : (k : Int) ≤ l.length := by omega
        have hkc : k ≤ cap := by omega
        clear c0 c1 hx hz hlo hle n1 n2 q1 q2
        obtain ⟨xp, xn⟩ := x
        simp only at k0 k1 d
        go_wp2_with fail
        go_quiet (fail)
        go_wp2_with fail
        go_returns
        rw [e1.out]
        refine ⟨_, _, rfl, fun W h => ?_, hX.drewN _⟩
        rw [hq1.out, hq2.out]
        exact ⟨jw_take h k (by omega), jw_drop h k (by omega)⟩
    · have hk' : k = l.length := by omega
      have hge : (l.length : Int) ≤ k := by omega
      obtain ⟨q1, q2⟩ := cut_at hlo.out (fun y hy => by rw [List.getElem?_eq_none (by omega)] at hy; cases hy)
      have e1 : Hid (js (cutL l t) = z) := by show _ = _; rw [q1, ← hz.out]
      have hq1 := hide q1
      have hq2 := hide q2
      have hkI : (k : Int) ≤ l.length := by omega
      have hkc : k ≤ cap := by omega
      replace hk' := hide hk'
      clear hz hlo q1 q2
      go_wp2_with fail
      go_quiet (fail)
      go_wp2_with fail
      go_returns
      rw [e1.out]
      refine ⟨_, _, rfl, fun W h => ?_, hX.drewN _⟩
      rw [hq1.out, hq2.out]
      exact ⟨jw_take h k (by omega), jw_drop h k (by omega)⟩
theorem ng_next {l : List Jp} {k : Nat} {x : Jp} (hx : l[k]? = some x) : ngL (l.take (k + 1)) = ngL (l.take k) ++ [(x.1, -x.2)] := by
  rw [take_snoc hx]; simp [ngL]
set_option maxHeartbeats 4000000 in
set_option maxRecDepth 100000 in
theorem stepRest_c (l : List Jp) (t : Int) (v : Value) (w : World) (h : Jw w [] v l) : Calls Tryz.prog 80 #[v, .int .i64 t] w fun e w' => ∃ v', e = .returned (.tuple #[v', .int .i64 (reE l t)]) ∧ OwnJ w' w.heap.size v' (reR l t) ∧ Ext w w' := by
  have hm := hide (stepMay_c l v w h)
  obtain ⟨E, hE⟩ : ∃ E, E = reE l t := ⟨_, rfl⟩
  obtain ⟨R, hR⟩ : ∃ R, R = reR l t := ⟨_, rfl⟩
  rw [← hE, ← hR]
  cases hb : mayJ l
  · have e1 : E = 2 := by rw [hE]; unfold reE; rw [hb]; rfl
    have e2 : R = [] := by rw [hR]; unfold reR; rw [← hE, e1, if_neg (by decide)]
    subst e1
    subst e2
    rw [hb] at hm
    clear hb hE hR h
    go_enter Tryz.func80, Tryz.ntmps80
    go_wp2_with (go_at_call 140; (with_reducible refine seq_gw hm.out ?_); intro g)
    go_returns
    exact ⟨_, rfl, World.ownsRow_nil _ _ _ _, g.grown⟩
  rw [hb] at hm
  by_cases htF : 1125899906842624 ≤ t
  · have e0 : reL l t = [] := by unfold reL; rw [if_pos htF]
    have e1 : E = 0 := by rw [hE]; unfold reE; rw [hb, e0]; rfl
    have e2 : R = [] := by rw [hR]; unfold reR; rw [← hE, e1, if_pos rfl, e0]
    subst e1
    subst e2
    clear e0 hE hR h hb
    go_enter Tryz.func80, Tryz.ntmps80
    go_wp2_with (go_at_call 140; (with_reducible refine seq_gw hm.out ?_); intro g)
    go_returns
    exact ⟨_, rfl, World.ownsRow_nil _ _ _ _, g.grown⟩
  · have d : decide (1125899906842624 ≤ t) = false := by rw [decide_eq_false_iff_not]; exact htF
    have ec := rest_code hb t (by omega)
    have hEF : Hid (E = full (reC l t)) := by show _ = _; rw [hE, ec]; unfold reE; rw [hb]; rfl
    have hRF : Hid (R = kept (reC l t)) := by
      show _ = _
      rw [hR, ec]; unfold reR reE; rw [hb]
      unfold full kept
      cases mayJ (reL l t) <;> rfl
    have hcut := hide (fun w' (hX : Ext w w') => cut_c l hb t v w' (Sl.ext h hX))
    have lR : (cutR l t).length ≤ 1024 := by have := (List.dropWhile_sublist (fun j : Jp => decide (j.1 < t)) (l := l)).length_le; have := mayJ_len hb; unfold cutR; omega
    unfold reC at hEF hRF
    generalize js (cutL l t) = z at *
    generalize cutL l t = cl at *
    generalize cutR l t = cr at *
    have hh := hide h
    replace hb := hide hb
    clear hE hR h htF ec
    obtain ⟨A, cap, rfl, -, -, -⟩ := jw_form hh.out
    by_cases hz : z = 0
    · subst hz
      rw [if_neg (by simp)] at hEF hRF
      go_enter Tryz.func80, Tryz.ntmps80
      go_wp2_with (first | (go_at_call 140; (with_reducible refine seq_gw hm.out ?_); intro g) | (go_at_call 148; refine (hcut.out _ g.grown).mono ?_; rintro ee w2 ⟨v1, v2, rfl, hv, hx2⟩; have hv2 := hide ((hv w2 (Sl.ext hh.out (g.grown.trans hx2))).2); have hX2 := hide (g.grown.trans hx2); have hsz := hX2.out.size; clear hv) | (at_builtin; (refine wpl_app tJmp rfl (.tmp 29) (.tmp 30) rfl rfl (World.ownsRow_nil _ w.heap.size _ _) rfl (src_sl Tryz.underlying46 hv2.out (ps_one _) (by omega)) (by unfold maxLen; omega) (by omega) hsz ?_; intro v7 w7 ho7 hg7 _; have hX7 := hide (ext_grown hX2.out hg7 (fun k hk => ((World.ownsRow_nil w2 w.heap.size 133 2).lt k hk).1)); have huf := hide (unlessFull_c cr v7 w.heap.size w7 (by have := own_appJ (l := []) ho7; simpa using this)))) | (go_at_call 149; refine huf.out.mono ?_; rintro ee w4 ⟨v4, rfl, ho4, hx4⟩))
      go_returns
      rw [hEF.out, hRF.out]
      exact ⟨_, rfl, ho4, hX7.out.trans hx4⟩
    · have hzb : (z != 0) = true := by simp [hz]
      rw [if_pos hz] at hEF hRF
      replace hz := hide hz
      go_enter Tryz.func80, Tryz.ntmps80
      go_wp2_with (first | (go_at_call 140; (with_reducible refine seq_gw hm.out ?_); intro g) | (go_at_call 148; refine (hcut.out _ g.grown).mono ?_; rintro ee w2 ⟨v1, v2, rfl, hv, hx2⟩; have hv2 := hide ((hv w2 (Sl.ext hh.out (g.grown.trans hx2))).2); have hX2 := hide (g.grown.trans hx2); have hsz := hX2.out.size; clear hv) | (at_builtin; (refine wpl_app tJmp rfl (.tmp 24) (.tmp 27) rfl rfl (World.ownsRow_nil _ w.heap.size _ _) rfl (src_jmp Tryz.underlying46 w2 (-1, z) _) (by unfold maxLen; omega) (by omega) (by simp only [World.size_alloc]; omega) ?_; intro v6 w6 ho6 hg6 _; have hX6 := hide (ext_grown (hX2.out.alloc _) hg6 (fun k hk => ((World.ownsRow_nil w2 w.heap.size 133 2).lt k hk).1)); have hX26 := hide (ext_grown ((Ext.refl w2).alloc _) hg6 (fun k hk => ((World.ownsRow_nil w2 w2.heap.size 133 2).lt k hk).1)); have ho6' := hide (show OwnJ w6 w.heap.size v6 [(-1, z)] by have := own_appJ (l := []) ho6; simpa using this); have hsz6 := hX6.out.size; clear ho6)) | (at_builtin; (refine wpl_app tJmp rfl (.tmp 29) (.tmp 30) rfl rfl ho6'.out rfl (src_sl Tryz.underlying46 (Sl.ext hv2.out hX26.out) (ps_one _) (by omega)) (by unfold maxLen; simp only [List.length_singleton]; omega) (by simp only [List.length_singleton]; omega) hsz6 ?_; intro v7 w7 ho7 hg7 _; have hX7 := hide (ext_grown hX6.out hg7 (fun k hk => (ho6'.out.lt k hk).1)); have huf := hide (unlessFull_c ((-1, z) :: cr) v7 w.heap.size w7 (by have := own_appJ (l := [(-1, z)]) ho7; simpa using this)))) | (go_at_call 149; refine huf.out.mono ?_; rintro ee w4 ⟨v4, rfl, ho4, hx4⟩))
      go_returns
      rw [hEF.out, hRF.out]
      exact ⟨_, rfl, ho4, hX7.out.trans hx4⟩
end Go.Proofs.YtobmjcehgpmfgaaGreat
set_option linter.unusedVariables false
set_option linter.unusedSimpArgs false
namespace Go.Proofs.YtobmjcehgpmfgaaGreat
open Go.RowKit
attribute [local go_sem] GW.cell GW.frozen In.eq_true In.le_true In.ne In.ne' In.ne_add In.ne_add' In.lt_add Upto.le_true Upto.le_add Upto.lt_add
def restG (t : Int) (g : Gp) : Gp := (g.1, reR g.2 t)
theorem del_none {kf : List Vl → List UInt8} {V : List Fe} {kl : Lit} (h : ∀ x ∈ V, (fent kf x).1.sameKey kl = false) : delM (fent kf) V kl = V := by
  unfold delM
  rw [List.filter_eq_self]
  intro x hx
  rw [h x hx]; rfl
set_option maxHeartbeats 8000000 in
set_option maxRecDepth 100000 in
theorem bagForget_c (kf : List Vl → List UInt8) (S : List Nat) (B mb n : Nat) (mk t : Int) (T : List Fe) (hn : n + T.length < 1000000000) (w : World) (h : Bg kf w S B mb n mk T) (hB : B ≠ mb) (hS : ∀ b, b ∈ S → b < w.heap.size) (hBS : B ∈ S ∧ mb ∈ S) : Calls Tryz.prog 19 #[.pointer (some ⟨B, 0, none⟩), .int .i64 t] w fun e w' =>
    (t ≤ mk → e = .returned (.int .i64 0) ∧ Ext w w') ∧ (mk < t → (∃ p ∈ T, reE p.2.2.2 t ≠ 0 ∧ e = .returned (.int .i64 (reE p.2.2.2 t)) ∧ Ext w w') ∨
      ((∀ p ∈ T, reE p.2.2.2 t = 0) ∧ e = .returned (.int .i64 0) ∧ ∃ U : List Fe, (U.map (·.2.2)).Perm (T.map fun p => restG t p.2.2) ∧ (∀ p ∈ U, Rw w' S p.1 p.2.2.1 ∧ Jw w' S p.2.1 p.2.2.2) ∧ Mv w' Tryz.prog 9 (fent kf) mb (n + U.length) (updT kf T U) ∧ Ob w' B 119 [.int .i64 t, .map (some mb)] ∧ Fr [B, mb] w w')) := by
  have c0 := h.1.cell 0 rfl
  have c1 := h.1.cell 1 rfl
  have hlt := h.1.lt
  haveI : In B w := ⟨hlt⟩
  by_cases ht : t ≤ mk
  · have d1 : decide (t ≤ mk) = true := decide_eq_true ht
    replace ht := hide ht
    clear h
    go_enter Tryz.func19, Tryz.ntmps19
    go_wp2_with fail
    go_returns
    exact ⟨fun _ => ⟨rfl, Ext.refl _⟩, fun h2 => by have := ht.out; omega⟩
  have d1 : decide (t ≤ mk) = false := decide_eq_false ht
  have hO := hide h.1
  have hM := hide h.2.1
  have hT := hide h.2.2
  have hml := h.2.1.lt
  have hap := hide ((h.2.1.apart fnKey).1)
  have hSh := hide hS
  replace ht := hide ht
  have hMn := hide (Mv.made (fent kf) w Tryz.prog 9)
  have hmk : ∀ w, (Instr.makeMap 117 none).run Tryz.prog w = .ok (.map (some w.heap.size)) (w.alloc (.map #[] 0)) := fun _ => by kernel_rfl
  have hMa := hide (hM.out.alloc (.map #[] 0))
  clear h hS
  go_enter Tryz.func19, Tryz.ntmps19
  go_wp2_with (at_range; refine wpl_range rfl (.tmp 22) rfl rfl fnKey Tryz.underlying117 hMa.out ?_; intro w1 hr1 hg1 hs1)
  first | go_frame | skip
  simp only [World.size_alloc] at hr1 hs1
  obtain ⟨ob, hob⟩ : ∃ ob, ob = w.heap.size := ⟨_, rfl⟩
  obtain ⟨r, hrr⟩ : ∃ r, r = w.heap.size + 1 := ⟨_, rfl⟩
  have hMo := hide (show Mv w1 Tryz.prog 9 (fent kf) ob 0 [] by rw [hob]; exact hMn.out.kept hg1 (by simp))
  have hX1 := hide (show Ext w w1 from ext_grown ((Ext.refl w).alloc (.map #[] 0)) hg1 (by simp))
  rw [← hob, show ob + 1 = r by omega] at hr1 ⊢
  have hrle : w.heap.size ≤ r := by omega
  have hole : w.heap.size ≤ ob := by omega
  have hor : ob ≠ r := by omega
  obtain ⟨S2, hS2e⟩ : ∃ S2, S2 = r :: ob :: S := ⟨_, rfl⟩
  have hsub := hide (show ∀ b, b ∈ S → b ∈ S2 by rw [hS2e]; intro b hb; simp [hb])
  have hS2n := hide (show ∀ b, b ∈ S2 → b ∈ S ∨ w.heap.size ≤ b by rw [hS2e]; intro b hb; simp only [List.mem_cons] at hb; rcases hb with rfl | rfl | hb <;> first | exact .inr hrle | exact .inr hole | exact .inl hb)
  have hS2m := hide (show ∀ b, b ∈ [r, ob] → b ∈ S2 by rw [hS2e]; intro b hb; simp only [List.mem_cons, List.not_mem_nil, or_false] at hb; rcases hb with rfl | rfl <;> simp)
  have hS2l := hide (show ∀ b, b ∈ S2 → b ≤ r by rw [hS2e]; intro b hb; simp only [List.mem_cons] at hb; rcases hb with rfl | rfl | hb <;> first | omega | (have := hSh.out b hb; omega))
  have hrl := hide (show r < w1.heap.size by omega)
  clear hS2e
  replace hr1 := hide hr1
  clear hg1 hs1 hMa hMn
  replace hrr := hide hrr
  replace hob := hide hob
  go_loopg [6] T.length (fun gh u wr => ∃ (D L V : List Fe), L.length = gh ∧ Hid (T.Perm (D ++ L)) ∧ Hid ((V.map (·.2.2)).Perm (D.map fun p => restG t p.2.2)) ∧ Hid (∀ p ∈ D, reE p.2.2.2 t = 0) ∧ Hid (∀ p ∈ V, Rw wr S2 p.1 p.2.2.1 ∧ Jw wr S2 p.2.1 p.2.2.2) ∧ Hid (Mv wr Tryz.prog 9 (fent kf) ob V.length V) ∧ Hid (Rgv wr Tryz.prog 9 (fent kf) mb r n T L) ∧ Hid (Ext w wr ∧ r < wr.heap.size))
  case atStart => exact ⟨[], T, [], rfl, List.Perm.refl _, List.Perm.refl _, (by intro p hp; simp at hp), (by intro p hp; simp at hp), hMo, hr1, ⟨hX1.out, hrl.out⟩⟩
  case round =>
    clear hr1 hMo hX1
    obtain ⟨D, L, V, hL, hp0, hpV, hD0, hVf, hMv, hRv, hXr⟩ := hrel
    have hX := hide hXr.out.1
    have hrw5 := hXr.out.2
    have cB := cell_later hX.out c1
    have cBl := block_lt_of_cell cB
    haveI : In B wr := ⟨cBl⟩
    have hVD : V.length = D.length := by have := hpV.out.length_eq; simpa using this
    have hDT : D.length + L.length = T.length := by have := hp0.out.length_eq; rw [List.length_append] at this; omega
    go_wp2_with (at_next; refine wpl_next rfl (.tmp 23) rfl rfl fnKey hRv.out ?_ ?_)
    · intro hl0
      subst hl0
      have hBg : Bg kf wr S B mb n mk T := ⟨hO.out.ext hX.out, hM.out.kept (ext_by hX.out) (by simp), fun p hp => ⟨Sl.ext (hT.out p hp).1 hX.out, Sl.ext (hT.out p hp).2 hX.out⟩⟩
      have hput := hide (bagPut_c kf S B mb n ob V.length mk T V (by simp at hDT; omega) (by omega) wr hBg hB ⟨hMv.out, fun p hp => ⟨Sl.less (hVf.out p hp).1 hsub.out, Sl.less (hVf.out p hp).2 hsub.out⟩⟩)
      clear hRv hT hBg
      go_wp2_with (go_at_call 76; (refine hput.out.mono ?_; rintro ee w5 ⟨rfl, hM5, hF5⟩; have O5 := (hO.out.ext hX.out).fr hF5 (by simp; exact hB); have q0 := O5.cell 0 rfl; have qf := O5.free 0; have ql := O5.lt; haveI : In B w5 := ⟨ql⟩; replace O5 := hide O5; replace hM5 := hide hM5; replace hF5 := hide hF5))
      go_returns
      have hDp : D.Perm T := by have := hp0.out; rw [List.append_nil] at this; exact this.symm
      have hG : (w5.setCell ⟨B, 0, none⟩ (.int .i64 t)).heap.size = w5.heap.size := World.size_setCell ..
      have hFF : Fr [B, mb] w (w5.setCell ⟨B, 0, none⟩ (.int .i64 t)) := ((Fr.of_ext hX.out).then (S' := [mb]) hF5.out (by simp)).setCell ⟨B, 0, none⟩ _ (.inl (by simp))
      have hFs : Fr [B, mb] wr (w5.setCell ⟨B, 0, none⟩ (.int .i64 t)) := ((Fr.refl [B, mb] wr).then (S' := [mb]) hF5.out (by simp)).setCell ⟨B, 0, none⟩ _ (.inl (by simp))
      refine ⟨fun h1 => by have := ht.out; omega, fun _ => .inr ⟨fun p hp => hD0.out p (hDp.mem_iff.2 hp), rfl, V, hpV.out.trans (hDp.map _), fun p hp => ?_, ?_, ?_, hFF⟩⟩
      · have hm : ∀ b, b ∈ [B, mb] → b ∈ S := by
          intro b hb
          simp only [List.mem_cons, List.not_mem_nil, or_false] at hb
          rcases hb with rfl | rfl
          · exact hBS.1
          · exact hBS.2
        exact ⟨Sl.fr (Sl.less (hVf.out p hp).1 hsub.out) hFs hm, Sl.fr (Sl.less (hVf.out p hp).2 hsub.out) hFs hm⟩
      · obtain ⟨es, h1, h2⟩ := hM5.out
        exact ⟨es, h1.setCell (Ne.symm hB) _, h2⟩
      · exact O5.out.set 0 _
    · intro key vr vj q f L' w4 hkey hq hp hR4 hg4 hs4 hen
      have hE : (fent kf (vr, vj, q, f)).2 = .agg #[vr, vj] := rfl
      rw [hE] at hen ⊢
      obtain ⟨hrw, hjw⟩ := hT.out _ hq
      simp only at hrw hjw
      have hlen : L'.length + 1 = L.length := by rw [hp.length_eq]; rfl
      have hX4 := ext_grown hX.out hg4 (fun z hz => by obtain rfl := Option.some.inj hz; exact hrle)
      have hpD := hp0.out.trans ((List.Perm.refl D).append hp)
      have hneD : ∀ x ∈ D, (fent kf x).1.sameKey (fent kf (vr, vj, q, f)).1 = false := fun x hx => by
        cases hs : (fent kf x).1.sameKey (fent kf (vr, vj, q, f)).1
        · rfl
        · exfalso
          have h1 := (hpD.pairwise_iff (R := fun p q : Fe => (fent kf p).1 ≠ (fent kf q).1) (fun {a b} hab => Ne.symm hab)).1 hap.out
          rw [List.pairwise_append] at h1
          exact h1.2.2 x hx _ (by simp) (WideAt.sameKey_eq hs)
      have hneV := hide (show ∀ x ∈ V, (fent kf x).1.sameKey (fent kf (vr, vj, q, f)).1 = false from fun x hx => by
        have h1 : x.2.2 ∈ D.map fun p => restG t p.2.2 := hpV.out.mem_iff.1 (List.mem_map.2 ⟨x, hx, rfl⟩)
        obtain ⟨d, hd, e⟩ := List.mem_map.1 h1
        have h2 := hneD d hd
        have e2 : x.2.2.1 = d.2.2.1 := by rw [← e]; rfl
        have e3 : (fent kf x).1 = (fent kf d).1 := by unfold fent; rw [e2]
        rw [e3]; exact h2)
      have hpn := hide (show T.Perm ((D ++ [(vr, vj, q, f)]) ++ L') by rw [List.append_assoc]; exact hpD)
      obtain ⟨VA, vcap, rfl⟩ := (show ∃ A cap, vr = .slice A q.length cap by obtain ⟨A, cap, e, _⟩ := hrw; exact ⟨A, cap, e⟩)
      have hre := hide (fun w' (hx : Ext w w') => stepRest_c f t vj w' ((Sl.less hjw (S' := []) (by simp)).ext hx))
      obtain ⟨JA, jcap, rfl, hjl, hjm, -⟩ := jw_form hjw
      have hA := World.grownBy_alloc w4 (.cells #[.slice VA q.length vcap, .slice JA f.length jcap] 128) none
      have hMa := hide ((hMv.out.kept hg4 (by simpa using hor)).kept hA (by simp))
      have hRa := hide (hR4.kept hA (by simp) (by simp))
      have hXa := hide (hX4.alloc (.cells #[.slice VA q.length vcap, .slice JA f.length jcap] 128))
      have hO7 := hide (Ob.new w4 128 [.slice VA q.length vcap, .slice JA f.length jcap])
      have hgr := hide (show Fr [r] wr (w4.alloc (.cells #[.slice VA q.length vcap, .slice JA f.length jcap] 128)) from ((Fr.refl [r] wr).grown hg4 (fun k hk => by obtain rfl := Option.some.inj hk; exact .inl (by simp))).alloc _)
      have hnb : V.length < maxLen := by unfold maxLen; omega
      have hkk := hide (show keyOf Tryz.prog 9 key = some (fent kf (.slice VA q.length vcap, .slice JA f.length jcap, q, f)).1 from hkey)
      have hqm := hide hq
      have hrwh := hide (show Rw w S2 (.slice VA q.length vcap) q from Sl.new hrw hS2n.out)
      have hr4 := hide (show r < (w4.alloc (.cells #[.slice VA q.length vcap, .slice JA f.length jcap] 128)).heap.size by have := hgr.out.size; omega)
      clear hkey hq hp hp0 hpD hR4 hg4 hs4 hrw hjw hRv hE hA hMv cB cBl hneD hX4
      by_cases he0 : reE f t = 0
      · rw [he0] at hre
        go_wp2_with (first | (go_at_call 80; (refine (hre.out _ hXa.out).mono ?_; rintro ee w5 ⟨v5, rfl, ho5, hx5⟩; obtain ⟨A5, c5, e5⟩ := own_form ho5; subst e5; have O7 := hO7.out.ext hx5; have p0 := O7.cell 0 rfl; have p1 := O7.cell 1 rfl; have pl := O7.lt; haveI : In w4.heap.size w5 := ⟨pl⟩; have hM5 := hide (hMa.out.kept (ext_by hx5) (by simp)); have hx5h := hide hx5; replace ho5 := hide ho5; clear hx5)) | (at_mapUpdate; refine wpl_mstore rfl (.tmp 39) (.tmp 40) (.tmp 44) rfl ((.slice VA q.length vcap, .slice A5 (reR f t).length c5, (q, reR f t)) : Fe) rfl rfl rfl fnKey Tryz.underlying117 hnb hM5.out hkk.out ?_; intro w6 hM6 hg6))
        first | go_frame | skip
        go_roundg L'.length
        case measure => omega
        case rel =>
          have hFz : Fr [r, ob] wr w6 := ((hgr.out.more (S' := [r, ob]) (fun k _ hk => by simp at hk; simp [hk])).then (S' := []) (Fr.of_ext hx5h.out) (by simp)).grown hg6 (fun k hk => by obtain rfl := Option.some.inj hk; exact .inl (by simp))
          have hFy : Fr [r, ob] w5 w6 := (Fr.refl _ _).grown hg6 (fun k hk => by obtain rfl := Option.some.inj hk; exact .inl (by simp))
          refine ⟨D ++ [(.slice VA q.length vcap, .slice JA f.length jcap, q, f)], L', (.slice VA q.length vcap, .slice A5 (reR f t).length c5, (q, reR f t)) :: V, rfl, hpn, ?_, ?_, ?_, ?_, ?_, ?_⟩
          · show List.Perm _ _
            rw [List.map_cons, List.map_append]
            exact (hpV.out.cons _).trans (List.perm_append_singleton _ _).symm
          · intro p hp
            rcases List.mem_append.1 hp with hp | hp
            · exact hD0.out p hp
            · obtain rfl := List.mem_singleton.1 hp; exact he0
          · intro p hp
            rcases List.mem_cons.1 hp with rfl | hp
            · refine ⟨Sl.fr (Sl.ext hrwh.out (hXa.out.trans hx5h.out)) hFy hS2m.out, Sl.fr (Sl.own ho5.out fun b hb => ?_) hFy hS2m.out⟩
              have h1 := hS2l.out b hb
              have h2 := hr4.out
              omega
            · exact ⟨Sl.fr (hVf.out p hp).1 hFz hS2m.out, Sl.fr (hVf.out p hp).2 hFz hS2m.out⟩
          · have hM7 := hM6
            unfold putM at hM7
            rw [del_none (kl := (fent kf (.slice VA q.length vcap, .slice A5 (reR f t).length c5, q, reR f t)).1) hneV.out] at hM7
            exact hM7
          · exact (hRa.out.kept (ext_by hx5h.out) (by simp) (by simp)).kept hg6 (by simp; omega) (by simpa using Ne.symm hor)
          · exact ⟨ext_grown (hXa.out.trans hx5h.out) hg6 (fun k hk => by obtain rfl := Option.some.inj hk; exact hole), Nat.lt_of_lt_of_le hr4.out (Nat.le_trans hx5h.out.size hg6.size)⟩
      · have be : (reE f t != 0) = true := by simp [he0]
        obtain ⟨E, hEe⟩ : ∃ E, E = reE f t := ⟨_, rfl⟩
        rw [← hEe] at hre be he0
        replace hEe := hide hEe
        go_wp2_with (go_at_call 80; (refine (hre.out _ hXa.out).mono ?_; rintro ee w5 ⟨v5, rfl, ho5, hx5⟩; obtain ⟨A5, c5, e5⟩ := own_form ho5; subst e5; replace hx5 := hide hx5))
        go_returns
        exact ⟨fun h1 => by have := ht.out; omega, fun _ => .inl ⟨_, hqm.out, by rw [← hEe.out]; exact he0, by simp only; rw [← hEe.out]; rfl, hXa.out.trans hx5.out⟩⟩
end Go.Proofs.YtobmjcehgpmfgaaGreat
