/-
  A helper of ours: no claim of its own. Layer 9 (step): the document's side: places, what is told by values, jumps put together.
-/
import Derived.Test.YtljkneajdndgjabGreatStepC
import Derived.Test.YtljkneajdndgjabGreatReg
import Derived.Test.YtljkneajdndgjabGreatReg3
set_option linter.unusedVariables false
set_option linter.unusedSimpArgs false
namespace Go.Proofs.YtljkneajdndgjabGreat
open Go.RowKit
attribute [local go_sem] GW.cell GW.frozen In.eq_true In.le_true In.ne In.ne' In.ne_add In.ne_add' In.lt_add Upto.le_true Upto.le_add Upto.lt_add
attribute [-go_sem] sliced
attribute [local go_sem] sliced_eq
theorem ps_take (l : List Jp) : ∀ n, (ps l).take (n * 2) = ps (l.take n) := by
  induction l with
  | nil => intro n; simp [ps]
  | cons p r ih =>
    intro n
    rcases n with _ | n
    · simp [ps]
    · rw [show (n + 1) * 2 = n * 2 + 1 + 1 by omega]
      simpa [ps] using ih n
theorem jw_drop {w : World} {S : List Nat} {A : Option Addr} {cap : Nat} {l : List Jp} (h : Jw w S (.slice A l.length cap) l) (k : Nat) (hk : k ≤ l.length) : Jw w S (.slice (cutA A k cap 2) (l.length - k) (cap - k)) (l.drop k) := by
  obtain ⟨_, c, e, h1, h2, h3, h4⟩ := id h
  simp only [Value.slice.injEq] at e
  obtain ⟨rfl, -, rfl⟩ := e
  have hc := h.cut k l.length cap hk (Nat.le_refl _) h1 (Nat.le_refl _)
  rw [sliced_eq, List.take_of_length_le (by rw [ps_length]; omega), ps_drop] at hc
  unfold Jw
  rw [List.length_drop]
  exact hc
theorem jw_take {w : World} {S : List Nat} {A : Option Addr} {cap : Nat} {l : List Jp} (h : Jw w S (.slice A l.length cap) l) (k : Nat) (hk : k ≤ l.length) : Jw w S (.slice (cutA A 0 cap 2) k cap) (l.take k) := by
  obtain ⟨_, c, e, h1, h2, h3, h4⟩ := id h
  simp only [Value.slice.injEq] at e
  obtain ⟨rfl, -, rfl⟩ := e
  have hl : (l.take k).length = k := by rw [List.length_take]; omega
  have hc := h.cut 0 k k (Nat.zero_le _) hk (Nat.le_refl _) (by omega)
  have hc := h.cut 0 k cap (Nat.zero_le _) hk (by omega) (Nat.le_refl _)
  rw [sliced_eq, Nat.zero_mul, List.drop_zero, ps_take] at hc
  unfold Jw
  rw [hl]
  exact hc
theorem cut_at {l : List Jp} {k : Nat} {t : Int} (hl : ∀ j ∈ l.take k, j.1 < t) (hx : ∀ x, l[k]? = some x → t ≤ x.1) : cutL l t = l.take k ∧ cutR l t = l.drop k := by
  unfold cutL cutR
  induction l generalizing k with
  | nil => simp
  | cons a r ih =>
    rcases k with _ | k
    · have h := hx a rfl
      rw [List.takeWhile_cons, List.dropWhile_cons, if_neg (by simp; omega), if_neg (by simp; omega)]
      exact ⟨rfl, rfl⟩
    · have h := hl a (by simp)
      obtain ⟨i1, i2⟩ := ih (k := k) (fun j hj => hl j (by simp [hj])) (fun x hx' => hx x (by simpa using hx'))
      rw [List.takeWhile_cons, List.dropWhile_cons, if_pos (by simpa using h), if_pos (by simpa using h), i1, i2]
      exact ⟨rfl, rfl⟩
set_option maxHeartbeats 4000000 in
set_option maxRecDepth 100000 in
theorem cut_c (l : List Jp) (hb : mayJ l = true) (t : Int) (v : Value) (w : World) (h : Jw w [] v l) : Calls Tryz.prog 93 #[v, .int .i64 t] w fun e w' => ∃ v1 v2, e = .returned (.tuple #[v1, v2, .int .i64 (js (cutL l t))]) ∧ (∀ W, Jw W [] v l → Jw W [] v1 (cutL l t) ∧ Jw W [] v2 (cutR l t)) ∧ Ext w w' := by
  obtain ⟨A, cap, rfl, hl, hm, hat⟩ := jw_form h
  unfold maxLen at hm
  replace hat := hide hat
  clear h
  have hnet := hide (mayJ_net hb)
  have hn := hide (show l.length ≤ 4096 by have := mayJ_len hb; omega)
  have hnI : (l.length : Int) ≤ 4096 := by have := hn.out; omega
  replace hb := hide hb
  go_enter Tryz.func93, Tryz.ntmps93
  go_wp2_with fail
  go_loopg [6, 7] l.length (fun gh s i wr => ∃ (k : Nat) (z : Int), i = .int .i64 k ∧ s = .int .i64 z ∧ k + gh = l.length ∧ Hid (z = js (l.take k)) ∧ Hid (∀ j ∈ l.take k, j.1 < t) ∧ Ext w wr)
  case atStart => exact ⟨0, 0, rfl, rfl, by omega, rfl, (by intro j hj; simp at hj), Ext.refl w⟩
  case round =>
    obtain ⟨k, z, rfl, rfl, hk, hz, hlo, hX⟩ := hrel
    by_cases hlt : k < l.length
    · obtain ⟨x, hx⟩ : ∃ x, l[k]? = some x := ⟨_, List.getElem?_eq_getElem hlt⟩
      obtain ⟨b, o, rfl, -, hbl, c0, c1⟩ := hat.out k x hx
      have k0 := jcell_later hX c0
      have k1 := jcell_later hX c1
      have hbr : b < wr.heap.size := block_lt_of_cell k0
      obtain ⟨z1, z2⟩ := (show -4294967296 ≤ z ∧ z ≤ 4294967296 by have := hz.out; rw [this]; exact js_small hnet.out hn.out k)
      obtain ⟨n1, n2⟩ := hnet.out x (List.mem_of_getElem? hx)
      by_cases hle : x.1 < t
      · have hnx := js_next hx
        rw [← hz.out] at hnx
        have hlo' : Hid (∀ j ∈ l.take (k + 1), j.1 < t) := by
          intro j hj
          rw [take_snoc hx] at hj
          rcases List.mem_append.1 hj with hj | hj
          · exact hlo.out j hj
          · simp only [List.mem_singleton] at hj; subst hj; exact hle
        clear c0 c1 hx hz hlo
        obtain ⟨xp, xn⟩ := x
        simp only at n1 n2 hnx k0 k1 hle
        replace hnx := hide hnx
        go_wp2_with fail
        go_roundg (l.length - (k + 1))
        case measure => omega
        case rel => exact ⟨k + 1, z + xn, by go_num, by go_num, by omega, hnx.out.symm, hlo', hX⟩
      · obtain ⟨q1, q2⟩ := cut_at hlo.out (fun y hy => by rw [hx] at hy; cases hy; omega)
        have e1 : Hid (js (cutL l t) = z) := by show _ = _; rw [q1, ← hz.out]
        have hq1 := hide q1
        have hq2 := hide q2
        have d : decide (x.1 < t) = false := by rw [decide_eq_false_iff_not]; exact hle
        have hkI : (k : Int) ≤ l.length := by omega
        have hkc : k ≤ cap := by omega
        clear c0 c1 hx hz hlo hle n1 n2 q1 q2
        obtain ⟨xp, xn⟩ := x
        simp only at k0 k1 d
        go_wp2_with fail
        go_quiet (fail)
        go_wp2_with fail
        go_returns
        rw [e1.out]
        refine ⟨_, _, rfl, fun W h => ?_, hX.drewN _⟩
        rw [hq1.out, hq2.out]
        exact ⟨jw_take h k (by omega), jw_drop h k (by omega)⟩
    · have hk' : k = l.length := by omega
      have hge : (l.length : Int) ≤ k := by omega
      obtain ⟨q1, q2⟩ := cut_at hlo.out (fun y hy => by rw [List.getElem?_eq_none (by omega)] at hy; cases hy)
      have e1 : Hid (js (cutL l t) = z) := by show _ = _; rw [q1, ← hz.out]
      have hq1 := hide q1
      have hq2 := hide q2
      have hkI : (k : Int) ≤ l.length := by omega
      have hkc : k ≤ cap := by omega
      replace hk' := hide hk'
      clear hz hlo q1 q2
      go_wp2_with fail
      go_quiet (fail)
      go_wp2_with fail
      go_returns
      rw [e1.out]
      refine ⟨_, _, rfl, fun W h => ?_, hX.drewN _⟩
      rw [hq1.out, hq2.out]
      exact ⟨jw_take h k (by omega), jw_drop h k (by omega)⟩
set_option maxHeartbeats 4000000 in
set_option maxRecDepth 100000 in
theorem stepAhead_c (l : List Jp) (t : Int) (v : Value) (w : World) (h : Jw w [] v l) : Calls Tryz.prog 52 #[v, .int .i64 t] w fun e w' => ∃ v', e = .returned (.tuple #[v', .int .i64 (ahE l t)]) ∧ OwnJ w' w.heap.size v' (ahR l t) ∧ Ext w w' := by
  have hm := hide (stepMay_c l v w h)
  obtain ⟨E, hE⟩ : ∃ E, E = ahE l t := ⟨_, rfl⟩
  obtain ⟨R, hR⟩ : ∃ R, R = ahR l t := ⟨_, rfl⟩
  rw [← hE, ← hR]
  cases hb : mayJ l
  · have e1 : E = 2 := by rw [hE]; unfold ahE; rw [hb]; rfl
    have e2 : R = [] := by rw [hR]; unfold ahR; rw [← hE, e1, if_neg (by decide)]
    subst e1
    subst e2
    rw [hb] at hm
    clear hb hE hR h
    go_enter Tryz.func52, Tryz.ntmps52
    go_wp2_with (go_at_call 54; (with_reducible refine seq_gw hm.out ?_); intro g)
    go_returns
    exact ⟨_, rfl, World.ownsRow_nil _ _ _ _, g.grown⟩
  · rw [hb] at hm
    have hEF : Hid (E = full (ahC l t)) := by show _ = _; rw [hE, ahead_code hb]; unfold ahE; rw [hb]; rfl
    have hRF : Hid (R = kept (ahC l t)) := by
      show _ = _
      rw [hR, ahead_code hb]; unfold ahR ahE; rw [hb]
      unfold full kept
      cases mayJ (ahL l t) <;> rfl
    have hcut := hide (fun w' (hX : Ext w w') => cut_c l hb t v w' (Sl.ext h hX))
    have lL : (cutL l t).length ≤ 1024 := by have := (List.takeWhile_sublist (fun j : Jp => decide (j.1 < t)) (l := l)).length_le; have := mayJ_len hb; unfold cutL; omega
    obtain ⟨z1, z2⟩ := (show -4294967296 ≤ js (cutL l t) ∧ js (cutL l t) ≤ 4294967296 by
      have h1 := js_bound (K := 1048576) (by omega) (f := cutL l t) (fun j hj => mayJ_net hb j ((List.takeWhile_sublist _).subset hj))
      omega)
    unfold ahC at hEF hRF
    generalize js (cutL l t) = z at *
    generalize cutL l t = cl at *
    generalize cutR l t = cr at *
    have hh := hide h
    replace hb := hide hb
    clear hE hR h
    obtain ⟨A, cap, rfl, -, -, -⟩ := jw_form hh.out
    by_cases hz : z = 0
    · subst hz
      rw [if_neg (by simp)] at hEF hRF
      go_enter Tryz.func52, Tryz.ntmps52
      go_wp2_with (first | (go_at_call 54; (with_reducible refine seq_gw hm.out ?_); intro g) | (go_at_call 93; refine (hcut.out _ g.grown).mono ?_; rintro ee w2 ⟨v1, v2, rfl, hv, hx2⟩; have hv1 := hide ((hv w2 (Sl.ext hh.out (g.grown.trans hx2))).1); clear hv) | (go_at_call 94; refine (jmpClone_c cl v1 w2 hv1.out (by omega)).mono ?_; rintro ee w3 ⟨v3, rfl, ho3, hx3⟩; have hX3 := hide (g.grown.trans (hx2.trans hx3)); have hsz := (g.grown.trans hx2).size; have huf := hide (unlessFull_c cl v3 w.heap.size w3 (own_base ho3 hsz)); clear hv1 ho3) | (go_at_call 95; refine huf.out.mono ?_; rintro ee w4 ⟨v4, rfl, ho4, hx4⟩))
      go_returns
      rw [hEF.out, hRF.out]
      exact ⟨_, rfl, ho4, hX3.out.trans hx4⟩
    · have hzb : (z != 0) = true := by simp [hz]
      by_cases htF : t < 1125899906842624
      · rw [if_pos ⟨hz, htF⟩] at hEF hRF
        replace hz := hide hz
        go_enter Tryz.func52, Tryz.ntmps52
        go_wp2_with (first | (go_at_call 54; (with_reducible refine seq_gw hm.out ?_); intro g) | (go_at_call 93; refine (hcut.out _ g.grown).mono ?_; rintro ee w2 ⟨v1, v2, rfl, hv, hx2⟩; have hv1 := hide ((hv w2 (Sl.ext hh.out (g.grown.trans hx2))).1); clear hv) | (go_at_call 94; refine (jmpClone_c cl v1 w2 hv1.out (by omega)).mono ?_; rintro ee w3 ⟨v3, rfl, ho3, hx3⟩; have hX3 := hide (g.grown.trans (hx2.trans hx3)); have hsz := (g.grown.trans hx2).size; have hsz3 := hX3.out.size; replace ho3 := hide (own_base ho3 hsz); clear hv1) | (at_builtin; (refine wpl_app tJmp rfl (.tmp 28) (.tmp 33) rfl rfl (own_ext ho3.out ((Ext.refl w3).alloc _)) rfl (src_jmp Tryz.underlying39 w3 (t, -z) _) (by unfold maxLen; omega) (by omega) (by simp only [World.size_alloc]; omega) ?_; intro v7 w7 ho7 hg7 _; have hX7 := hide (ext_grown (hX3.out.alloc _) hg7 (fun k hk => (ho3.out.lt k hk).1)); have huf := hide (unlessFull_c (cl ++ [(t, -z)]) v7 w.heap.size w7 (own_appJ ho7)))) | (go_at_call 95; refine huf.out.mono ?_; rintro ee w4 ⟨v4, rfl, ho4, hx4⟩))
        go_returns
        rw [hEF.out, hRF.out]
        exact ⟨_, rfl, ho4, hX7.out.trans hx4⟩
      · have d : decide (t < 1125899906842624) = false := by rw [decide_eq_false_iff_not]; exact htF
        rw [if_neg (fun h => htF h.2)] at hEF hRF
        replace hz := hide hz
        clear htF
        go_enter Tryz.func52, Tryz.ntmps52
        go_wp2_with (first | (go_at_call 54; (with_reducible refine seq_gw hm.out ?_); intro g) | (go_at_call 93; refine (hcut.out _ g.grown).mono ?_; rintro ee w2 ⟨v1, v2, rfl, hv, hx2⟩; have hv1 := hide ((hv w2 (Sl.ext hh.out (g.grown.trans hx2))).1); clear hv) | (go_at_call 94; refine (jmpClone_c cl v1 w2 hv1.out (by omega)).mono ?_; rintro ee w3 ⟨v3, rfl, ho3, hx3⟩; have hX3 := hide (g.grown.trans (hx2.trans hx3)); have hsz := (g.grown.trans hx2).size; have huf := hide (unlessFull_c cl v3 w.heap.size w3 (own_base ho3 hsz)); clear hv1 ho3) | (go_at_call 95; refine huf.out.mono ?_; rintro ee w4 ⟨v4, rfl, ho4, hx4⟩))
        go_returns
        rw [hEF.out, hRF.out]
        exact ⟨_, rfl, ho4, hX3.out.trans hx4⟩
end Go.Proofs.YtljkneajdndgjabGreat
set_option linter.unusedVariables false
set_option linter.unusedSimpArgs false
namespace Go.Proofs.YtljkneajdndgjabGreat
open Go.RowKit
attribute [local go_sem] GW.cell GW.frozen In.eq_true In.le_true In.ne In.ne' In.ne_add In.ne_add' In.lt_add Upto.le_true Upto.le_add Upto.lt_add
theorem buildJ1 (x : Jp) (w : World) : (Instr.buildSlice 39 1 #[(0, jm x)]).run Tryz.prog w = .ok (.slice (some ⟨w.heap.size, 0, none⟩) 1 1) (w.alloc (.cells #[.int .i64 x.1, .int .i64 x.2] 80)) := by
  simp [go_sem]
def oneJ (x : Jp) : Fact := .st (fun u w => Jw w [] u [x]) (fun _ _ _ h k => Sl.ext h k)
theorem oneJ_new (x : Jp) (w : World) : Jw (w.alloc (.cells #[.int .i64 x.1, .int .i64 x.2] 80)) [] (.slice (some ⟨w.heap.size, 0, none⟩) 1 1) [x] :=
  Sl.own (World.ownsRow_lit (base := w.heap.size) (e := 80) (size := 2) w #[.int .i64 x.1, .int .i64 x.2] 1 (Nat.le_refl _) (by decide) rfl) (by simp)
end Go.Proofs.YtljkneajdndgjabGreat
