/-
  A helper of ours: no claim of its own. Layer 18 (eval): an expression's answer is what its last word makes of its parts' answers (lists).
-/
import Derived.Test.YtljkneajdndgjabGreatEdgGr
import Derived.Test.YtljkneajdndgjabGreatAntA
import Derived.Test.YtljkneajdndgjabGreatRf
import Derived.Test.YtljkneajdndgjabGreatReg3
import Derived.Test.YtljkneajdndgjabGreatRowC
set_option linter.unusedVariables false
set_option linter.unusedSimpArgs false
namespace Go.Proofs.YtljkneajdndgjabGreat
open Go.RowKit
attribute [local go_sem] GW.cell GW.frozen In.eq_true In.le_true In.ne In.ne' In.ne_add In.ne_add' In.lt_add Upto.le_true Upto.le_add Upto.lt_add
set_option maxHeartbeats 8000000 in
set_option maxRecDepth 100000 in
theorem refJumps_c (L : List Ve) (r : List Vl) (v u : Value) (w : World) (hC : Ew w [] v L) (hr : Rw w [] u r) (hz : L.length ≤ 1000000000) : Calls Tryz.prog 19 #[v, u] w fun e w' => ∃ v', e = .returned v' ∧ OwnJ w' w.heap.size v' (jmps (eds L) r) ∧ Ext w w' := by
  obtain ⟨A, cap, rfl, hl, hm, hat⟩ := ew_form hC
  unfold maxLen at hm
  replace hat := hide hat
  have hrows := hide hC.2
  have hrw := hide hr
  obtain ⟨RA, rcap, rfl⟩ := rw_val hr
  obtain ⟨R, hR⟩ : ∃ R, R = jmps (eds L) r := ⟨_, rfl⟩
  rw [← hR]
  replace hR := hide hR
  have hlit := hide (World.ownsRow_lit (base := w.heap.size) (e := 80) (size := 2) w #[] 0 (Nat.le_refl _) (by decide) rfl)
  clear hC hr
  go_enter Tryz.func19, Tryz.ntmps19
  go_wp2_with fail
  go_loopg [5, 6] L.length (fun gh vv i wr => ∃ (k : Nat) (acc : List Jp), i = .int .i64 k ∧ k + gh = L.length ∧ OwnJ wr w.heap.size vv acc ∧ acc.length ≤ k ∧ Hid (acc = jmps (eds (L.take k)) r) ∧ Ext w wr)
  case atStart => exact ⟨0, [], rfl, by omega, hlit.out, Nat.le_refl _, (by show _ = _; simp [eds, jmps]), (Ext.refl w).alloc _⟩
  case round =>
    obtain ⟨k, acc, rfl, hk, ho, hak, hacc, hX⟩ := hrel
    have hzX := hX.size
    by_cases hlt : k < L.length
    · obtain ⟨x, hx⟩ : ∃ x, L[k]? = some x := ⟨_, List.getElem?_eq_getElem hlt⟩
      obtain ⟨b0, o0, rfl, -, hb', c0, c1, c2⟩ := hat.out k x hx
      have k0 := cell_later hX c0
      have k1 := hide (cell_later hX c1)
      have k2 := hide (cell_later hX c2)
      have hbr : b0 < wr.heap.size := block_lt_of_cell k0
      have hrx := Sl.ext (hrows.out x (List.mem_of_getElem? hx)) hX
      have hsm := hide (refRowSame_c hrx (Sl.ext hrw.out hX))
      have htk : eds (L.take (k + 1)) = eds (L.take k) ++ [x.2] := by rw [List.take_add_one, hx]; simp [eds]
      obtain ⟨xv, xq, xa, xn⟩ := x
      simp only at k0 hrx hsm htk
      obtain ⟨XA, xcap, rfl⟩ := rw_val hrx
      have hnx1 : Hid (xq = r → acc ++ [(xa, xn)] = jmps (eds (L.take (k + 1))) r) := fun h => by
        rw [htk, jmps_append, hacc.out, jmps_cons, if_pos h]; rfl
      have hnx2 : Hid (¬ xq = r → acc = jmps (eds (L.take (k + 1))) r) := fun h => by
        rw [htk, jmps_append, hacc.out, jmps_cons, if_neg h]; simp [jmps]
      clear c0 c1 c2 hat hx hacc hrows hrx htk
      by_cases hq : xq = r
      · have hnx := hide (hnx1.out hq)
        rw [decide_eq_true hq] at hsm
        replace hq := hide hq
        obtain ⟨C, ccap, rfl⟩ := own_form ho
        replace ho := hide ho
        clear hnx1 hnx2
        go_wp2_with (go_at_call 46; (with_reducible refine seq_gw hsm.out ?_); intro g)
        replace ho := hide (own_ext ho.out g.grown)
        have q1 := hide (cell_later g.grown k1.out)
        have q2 := hide (cell_later g.grown k2.out)
        have hzg := g.grown.size
        refine wp_region_list_tail 13 [(.is (.slice C acc.length ccap)), (.is (.slice (some ⟨b0, o0, none⟩) L.length cap)), (.is (.int .i64 k)), (.is (.pointer (some ⟨b0, o0 + k * 3, none⟩))), (.is (.pointer (some ⟨b0, o0 + k * 3 + 1, none⟩))), (.is (.int .i64 xa)), (.is (.slice (some ⟨b0, o0, none⟩) L.length cap)), (.is (.int .i64 k)), (.is (.pointer (some ⟨b0, o0 + k * 3, none⟩))), (.is (.pointer (some ⟨b0, o0 + k * 3 + 2, none⟩))), (.is (.int .i64 xn)), (.is (jm (xa, xn))), oneJ (xa, xn)] (by kernel_rfl) (by kernel_rfl) (by kernel_rfl) (by kernel_rfl) (by kernel_rfl) (by kernel_rfl) (by kernel_rfl) ?_ ?_
        · refine ⟨?_, ?_, ?_, ?_, ?_, ?_, ?_, ?_, ?_, ?_, ?_, ?_, ?_, trivial⟩
          · intro b w' h hE
            have f5 : b.tmps.getD 5 undef = .slice C acc.length ccap := hE 5 (of_decide_eq_true (by kernel_rfl))
            exact good_move (wanted_none rfl) rfl f5
          · intro b w' h hE
            have f0 : b.tmps.getD 0 undef = .slice (some ⟨b0, o0, none⟩) L.length cap := hE 0 (of_decide_eq_true (by kernel_rfl))
            exact good_move (wanted_none rfl) rfl f0
          · intro b w' h hE
            have f6 : b.tmps.getD 6 undef = .int .i64 k := hE 6 (of_decide_eq_true (by kernel_rfl))
            exact good_move (wanted_none rfl) rfl f6
          · intro b w' h hE
            have f22 : b.tmps.getD 22 undef = .slice (some ⟨b0, o0, none⟩) L.length cap := h.dep 1 _ 22 (by kernel_rfl) rfl rfl
            have f23 : b.tmps.getD 23 undef = .int .i64 k := h.dep 2 _ 23 (by kernel_rfl) rfl rfl
            exact good_index (wanted_none rfl) rfl f22 f23 (by simp [go_sem, hlt]) rfl
          · intro b w' h hE
            have f24 : b.tmps.getD 24 undef = .pointer (some ⟨b0, o0 + k * 3, none⟩) := h.dep 3 _ 24 (by kernel_rfl) rfl rfl
            exact good_field (wanted_none rfl) rfl f24 (by simp [go_sem]) rfl
          · intro b w' h hE
            have f25 : b.tmps.getD 25 undef = .pointer (some ⟨b0, o0 + k * 3 + 1, none⟩) := h.dep 4 _ 25 (by kernel_rfl) rfl rfl
            have c0 := cell_later h.ext q1.out
            exact good_load (wanted_none rfl) rfl f25 (by simp [go_sem, c0]) rfl
          · intro b w' h hE
            have f0 : b.tmps.getD 0 undef = .slice (some ⟨b0, o0, none⟩) L.length cap := hE 0 (of_decide_eq_true (by kernel_rfl))
            exact good_move (wanted_none rfl) rfl f0
          · intro b w' h hE
            have f6 : b.tmps.getD 6 undef = .int .i64 k := hE 6 (of_decide_eq_true (by kernel_rfl))
            exact good_move (wanted_none rfl) rfl f6
          · intro b w' h hE
            have f27 : b.tmps.getD 27 undef = .slice (some ⟨b0, o0, none⟩) L.length cap := h.dep 6 _ 27 (by kernel_rfl) rfl rfl
            have f28 : b.tmps.getD 28 undef = .int .i64 k := h.dep 7 _ 28 (by kernel_rfl) rfl rfl
            exact good_index (wanted_none rfl) rfl f27 f28 (by simp [go_sem, hlt]) rfl
          · intro b w' h hE
            have f29 : b.tmps.getD 29 undef = .pointer (some ⟨b0, o0 + k * 3, none⟩) := h.dep 8 _ 29 (by kernel_rfl) rfl rfl
            exact good_field (wanted_none rfl) rfl f29 (by simp [go_sem]) rfl
          · intro b w' h hE
            have f30 : b.tmps.getD 30 undef = .pointer (some ⟨b0, o0 + k * 3 + 2, none⟩) := h.dep 9 _ 30 (by kernel_rfl) rfl rfl
            have c0 := cell_later h.ext q2.out
            exact good_load (wanted_none rfl) rfl f30 (by simp [go_sem, c0]) rfl
          · intro b w' h hE
            have f26 : b.tmps.getD 26 undef = .int .i64 xa := h.dep 5 _ 26 (by kernel_rfl) rfl rfl
            have g26 : b.tmps[26]?.getD undef = .int .i64 xa := by rw [← Array.getD_eq_getD_getElem?]; exact f26
            have f31 : b.tmps.getD 31 undef = .int .i64 xn := h.dep 10 _ 31 (by kernel_rfl) rfl rfl
            have g31 : b.tmps[31]?.getD undef = .int .i64 xn := by rw [← Array.getD_eq_getD_getElem?]; exact f31
            exact good_run (wanted_none rfl) (by simp [execOp, Act.eval, go_sem, g26, g31, Sem.run_bind, Sem.run_pure, Result.andThen_ok]) rfl
          · intro b w' h hE
            have f32 : b.tmps.getD 32 undef = jm (xa, xn) := h.dep 11 _ 32 (by kernel_rfl) rfl rfl
            have g32 : b.tmps[32]?.getD undef = jm (xa, xn) := by rw [← Array.getD_eq_getD_getElem?]; exact f32
            have := buildJ1 (xa, xn) w'
            refine good_grow (w' := w'.alloc (.cells #[.int .i64 ((xa, xn)).1, .int .i64 ((xa, xn)).2] 80)) (v := .slice (some ⟨w'.heap.size, 0, none⟩) 1 1) (wanted_none rfl) ?_ (oneJ_new (xa, xn) w') ((Ext.refl _).alloc _)
            simp [execOp, Act.eval, g32, this, Sem.run_bind, Sem.run_pure, Result.andThen_ok]
        · intro b w2 hX2 hd hz he' hf
          have e21 : b.tmps.getD 21 undef = .slice C acc.length ccap := hf 0 _ 21 (by omega) rfl rfl
          have e22 : b.tmps.getD 22 undef = .slice (some ⟨b0, o0, none⟩) L.length cap := hf 1 _ 22 (by omega) rfl rfl
          have e23 : b.tmps.getD 23 undef = .int .i64 k := hf 2 _ 23 (by omega) rfl rfl
          have e24 : b.tmps.getD 24 undef = .pointer (some ⟨b0, o0 + k * 3, none⟩) := hf 3 _ 24 (by omega) rfl rfl
          have e25 : b.tmps.getD 25 undef = .pointer (some ⟨b0, o0 + k * 3 + 1, none⟩) := hf 4 _ 25 (by omega) rfl rfl
          have e26 : b.tmps.getD 26 undef = .int .i64 xa := hf 5 _ 26 (by omega) rfl rfl
          have e27 : b.tmps.getD 27 undef = .slice (some ⟨b0, o0, none⟩) L.length cap := hf 6 _ 27 (by omega) rfl rfl
          have e28 : b.tmps.getD 28 undef = .int .i64 k := hf 7 _ 28 (by omega) rfl rfl
          have e29 : b.tmps.getD 29 undef = .pointer (some ⟨b0, o0 + k * 3, none⟩) := hf 8 _ 29 (by omega) rfl rfl
          have e30 : b.tmps.getD 30 undef = .pointer (some ⟨b0, o0 + k * 3 + 2, none⟩) := hf 9 _ 30 (by omega) rfl rfl
          have e31 : b.tmps.getD 31 undef = .int .i64 xn := hf 10 _ 31 (by omega) rfl rfl
          have e32 : b.tmps.getD 32 undef = jm (xa, xn) := hf 11 _ 32 (by omega) rfl rfl
          have f9 : Jw w2 [] (b.tmps.getD 33 undef) [(xa, xn)] := hf 12 _ 33 (by omega) rfl rfl
          have e := frame_puts hd hz he'
          obtain ⟨X, hXx⟩ : ∃ X : Nat → Value, ∀ d, b.tmps.getD d undef = X d := ⟨_, fun _ => rfl⟩
          rw [hXx] at e21 e22 e23 e24 e25 e26 e27 e28 e29 e30 e31 e32 f9
          obtain ⟨A33, c33, q33⟩ := jone_form f9
          rw [show dstsOf _ = [21, 22, 23, 24, 25, 26, 27, 28, 29, 30, 31, 32, 33] from rfl] at e
          simp only [List.foldl_cons, List.foldl_nil, hXx, Act.put, List.setIfInBounds_toArray, List.set_cons_succ, List.set_cons_zero] at e
          rw [e21, e22, e23, e24, e25, e26, e27, e28, e29, e30, e31, e32, q33] at e
          rw [q33] at f9
          replace f9 := hide f9
          clear hf he' hz hd hXx e21 e22 e23 e24 e25 e26 e27 e28 e29 e30 e31 e32 q33
          subst e
          have hzw := hX2.size
          simp only [List.drop_succ_cons, List.drop_zero]
          go_wp2_with (at_builtin; (refine wpl_app tJmp rfl (.tmp 21) (.tmp 33) rfl rfl (own_ext ho.out hX2) rfl (src_sl Tryz.underlying39 f9.out (ps_one _) (by omega)) (by unfold maxLen; simp only [List.length_singleton]; omega) (by simp only [List.length_singleton]; omega) (by omega) ?_; intro v8 w8 ho8 hg8 _; have hX8 := hide (ext_grown ((hX.trans g.grown).trans hX2) hg8 (fun q hq => (ho.out.lt q hq).1))))
          go_roundg (L.length - (k + 1))
          case measure => omega
          case rel => exact ⟨k + 1, acc ++ [(xa, xn)], by go_num, by omega, own_appJ ho8, by rw [List.length_append, List.length_singleton]; omega, hnx.out, hX8.out⟩
      · have hnx := hide (hnx2.out hq)
        rw [decide_eq_false hq] at hsm
        replace hq := hide hq
        clear hnx1 hnx2
        go_wp2_with (go_at_call 46; (with_reducible refine seq_gw hsm.out ?_); intro g)
        go_roundg (L.length - (k + 1))
        case measure => omega
        case rel => exact ⟨k + 1, acc, by go_num, by omega, own_ext ho g.grown, by omega, hnx.out, hX.trans g.grown⟩
    · have hk' : k = L.length := by omega
      have hge : (L.length : Int) ≤ k := by omega
      have hac := hacc.out
      rw [List.take_of_length_le (by omega)] at hac
      have hRa := hide (hR.out.trans hac.symm)
      replace hk' := hide hk'
      obtain ⟨C, ccap, rfl⟩ := own_form ho
      clear hac hacc
      go_wp2_with fail
      go_returns
      rw [hRa.out]
      exact ⟨_, rfl, ho, hX⟩
end Go.Proofs.YtljkneajdndgjabGreat
set_option linter.unusedVariables false
set_option linter.unusedSimpArgs false
namespace Go.Proofs.YtljkneajdndgjabGreat
open Go.RowKit
attribute [local go_sem] GW.cell GW.frozen In.eq_true In.le_true In.ne In.ne' In.ne_add In.ne_add' In.lt_add Upto.le_true Upto.le_add Upto.lt_add
end Go.Proofs.YtljkneajdndgjabGreat
set_option linter.unusedVariables false
set_option linter.unusedSimpArgs false
namespace Go.Proofs.YtljkneajdndgjabGreat
open Go.RowKit
attribute [local go_sem] GW.cell GW.frozen In.eq_true In.le_true In.ne In.ne' In.ne_add In.ne_add' In.lt_add Upto.le_true Upto.le_add Upto.lt_add
def w1 : Vl := (1, 1, ⟨#[]⟩)
def w2 : Vl := (1, 2, ⟨#[]⟩)
end Go.Proofs.YtljkneajdndgjabGreat
set_option linter.unusedVariables false
set_option linter.unusedSimpArgs false
namespace Go.Proofs.YtljkneajdndgjabGreat
open Go.RowKit
theorem cutA_zero (b o cap s : Nat) : cutA (some ⟨b, o, none⟩) 0 cap s = some ⟨b, o, none⟩ := by
  unfold cutA; split
  · rfl
  · simp [add_plain]
attribute [-go_sem] sliced
attribute [local go_sem] sliced_eq cutA_zero
attribute [local go_sem] GW.cell GW.frozen In.eq_true In.le_true In.ne In.ne' In.ne_add In.ne_add' In.lt_add Upto.le_true Upto.le_add Upto.lt_add
/-- A part in front of others. -/
theorem PartsIn.src {w : World} {base : Nat} {v : Value} {L : List (List Vl)} (h : PartsIn w base v L) : ∃ us : List Value, w.ownsRow base 24 1 v L.length us ∧ (∀ u ∈ us, u.oneCell' = true) ∧ ∀ (i : Nat) (l : List Vl), L[i]? = some l → ∃ u, us[i]? = some u ∧ Rw w [] u l := by
  obtain ⟨us, ho, hr⟩ := h
  refine ⟨us, ho, fun u hu => ?_, hr⟩
  obtain ⟨i, hi⟩ := List.getElem?_of_mem hu
  have hlt := (List.getElem?_eq_some_iff.1 hi).1
  have hl := ho.1
  obtain ⟨l, hl'⟩ : ∃ l, L[i]? = some l := ⟨_, List.getElem?_eq_getElem (by omega)⟩
  obtain ⟨u', hu', hw⟩ := hr i l hl'
  rw [hi] at hu'
  obtain rfl := Option.some.inj hu'
  obtain ⟨A, c, rfl, -⟩ := rw_form hw
  rfl
theorem PartsIn.cons {w w' : World} {base : Nat} {v' u : Value} {us : List Value} {l : List Vl} {L : List (List Vl)} (hr : ∀ (i : Nat) (l : List Vl), L[i]? = some l → ∃ u, us[i]? = some u ∧ Rw w [] u l) (hu : Rw w [] u l) (hX : Ext w w')
    (ho : w'.ownsRow base 24 1 v' (1 + L.length) ([u] ++ us)) : PartsIn w' base v' (l :: L) := by
  refine ⟨u :: us, by rw [List.length_cons, Nat.add_comm]; exact ho, fun i m hm => ?_⟩
  match i, hm with
  | 0, hm =>
    obtain rfl : l = m := by simpa using hm
    exact ⟨u, rfl, Sl.ext hu hX⟩
  | i + 1, hm =>
    obtain ⟨x, hx, hw⟩ := hr i m (by simpa using hm)
    exact ⟨x, by simpa using hx, Sl.ext hw hX⟩
set_option maxHeartbeats 8000000 in
set_option maxRecDepth 100000 in
theorem refParts_c (t : Tr) (tg : t.good) (h64 : t.flat.length ≤ 64) (v : Value) (w : World) (h : Rw w [] v t.flat) : Calls Tryz.prog 159 #[v] w fun e w' => ∃ v', e = .returned v' ∧ PartsIn w' w.heap.size v' (t.kids.map Tr.flat) ∧ Ext w w' := by
  obtain ⟨A, cap, rfl, hl, hm, hat⟩ := rw_form h
  have hkg := t.kids_good tg
  have hkl := t.kids_len tg
  have hk2 : t.kids.length ≤ 2 := by cases t <;> simp [Tr.kids]
  have hfl : t.flat = flats t.kids ++ [t.top] := by rw [Tr.flat_kids]; rfl
  have hlen : t.flat.length = (flats t.kids).length + 1 := by rw [hfl]; simp
  obtain ⟨b, off, rfl, -, hb, c0, -, -⟩ := hat (flats t.kids).length t.top (by rw [hfl]; simp)
  have htk := hide (fun w => refTakes_c t.top.1 w)
  rw [hkl] at htk
  have hrest : Hid (∀ (ks rs : List Tr), t.kids = ks ++ rs → Rw w [] (.slice (some ⟨b, off, none⟩) (flats ks).length cap) (flats ks)) := by
    intro ks rs e
    have h1 : (flats ks).length ≤ t.flat.length := by rw [hfl, e, flats_app]; simp
    have h2 := rw_cut h (flats ks).length h1
    rw [cutA_zero] at h2
    have h3 : t.flat.take (flats ks).length = flats ks := by
      rw [hfl, e, flats_app, List.append_assoc]; exact List.take_left' rfl
    rw [h3] at h2
    exact h2
  generalize t.kids = K at *
  generalize t.top = o at *
  generalize hmK : (flats K).length = m at *
  replace hmK := hide hmK
  rw [hlen] at hl h64 ⊢
  replace hkg := hide hkg
  clear hat h hfl hlen hm hkl
  obtain ⟨oc, on, os⟩ := o
  simp only at c0 htk
  have hm1 : (m : Int) < m + 1 := by omega
  have hcapm : (m : Int) ≤ cap := by omega
  have hlit := hide (World.ownsRow_lit (base := w.heap.size) (e := 24) (size := 1) w #[] 0 (Nat.le_refl _) (by decide) rfl)
  go_enter Tryz.func159, Tryz.ntmps159
  go_wp2_with fail
  go_loopg [3, 4, 5, 6] K.length (fun gh ov rv iv mv wr => ∃ (ks done : List Tr) (q i : Nat), iv = .int .i64 i ∧ rv = .slice (some ⟨b, off, none⟩) q cap ∧ i + gh = K.length ∧ Hid (K = ks ++ done) ∧ Hid (q = (flats ks).length) ∧ Hid (i = done.length) ∧ q ≤ m ∧ PartsIn wr w.heap.size ov (done.map Tr.flat) ∧ Ext w wr)
  case atStart => exact ⟨K, [], m, 0, rfl, rfl, by omega, (by show _ = _; simp), hmK.out.symm, rfl, Nat.le_refl _, ⟨[], (by have h := hlit.out; exact h), by simp⟩, (Ext.refl w).alloc _⟩
  case round =>
    obtain ⟨ks, done, q, i, rfl, rfl, hi, hK, hqe, hid, hq, hP, hX⟩ := hrel
    clear hlit
    have k0 := cell_later hX c0
    have hbr : b < wr.heap.size := block_lt_of_cell k0
    haveI : In b wr := ⟨hbr⟩
    by_cases hlt : i < K.length
    · have hltI : (i : Int) < K.length := by omega
      obtain ⟨ks, t', rfl⟩ : ∃ us t, ks = us ++ [t] := by
        rcases List.eq_nil_or_concat ks with rfl | ⟨us, t, e⟩
        · have := congrArg List.length hK.out
          rw [List.length_append] at this
          have e2 := hid.out
          simp at this; omega
        · exact ⟨us, t, by simpa using e⟩
      have hg' := hkg.out t' (by rw [hK.out]; simp)
      have e3 : flats (ks ++ [t']) = flats ks ++ t'.flat := by rw [flats_app]; simp [flats]
      have hrs := hrest.out _ _ hK.out
      have hq2 : q = (flats ks).length + t'.flat.length := by have := hqe.out; rwa [e3, List.length_append] at this
      rw [← hqe.out] at hrs
      have hrs' : Rw w [] (.slice (some ⟨b, off, none⟩) (flats (ks ++ [t'])).length cap) (flats (ks ++ [t'])) := by rw [← hqe.out]; exact hrs
      have htl := hide (fun w' (hx : Ext w w') => refTail_c _ (flats (ks ++ [t'])) (Nat.le_refl _) _ w' (Sl.ext hrs hx))
      rw [e3, tl_flat t' hg' (flats ks)] at htl
      have hmid : Rw w [] (.slice (cutA (some ⟨b, off, none⟩) (flats ks).length cap 3) t'.flat.length (cap - (flats ks).length)) t'.flat := by
        have hc := Sl.cut hrs' (flats ks).length (flats (ks ++ [t'])).length cap (by rw [← hqe.out]; omega) (Nat.le_refl _) (by rw [← hqe.out]; omega) (Nat.le_refl _)
        rw [sliced_eq, rc_take, rc_drop, List.take_length, e3, List.drop_left, List.length_append, Nat.add_sub_cancel_left] at hc
        exact hc
      have hKn : Hid (K = ks ++ (t' :: done)) := by show _ = _; rw [hK.out]; simp
      have hmapn : t'.flat :: done.map Tr.flat = (t' :: done).map Tr.flat := by simp
      have hpos := t'.flat_pos
      generalize hp : (flats ks).length = p at *
      replace hp := hide hp
      subst hq2
      generalize hd : t'.flat.length = d at *
      replace hd := hide hd
      replace hmid := hide hmid
      obtain ⟨us, hus, hone, hrr⟩ := hP.src
      rw [List.length_map, ← hid.out] at hus
      obtain ⟨P3, c3, rfl⟩ := own_form hus
      have hzX := hX.size
      have hcap2 : p + d ≤ cap := by omega
      have hdI : Hid (d ≤ 64) := by show _ ≤ _; omega
      replace hus := hide hus
      replace hone := hide hone
      replace hrr := hide hrr
      clear hK hqe hrs hrs' e3 hrest hkg hg' hP hpos
      go_wp2_with (first | (go_at_call 129; (with_reducible refine seq_gw (htk.out _) ?_); intro g3; have hX3 := hide (hX.trans g3.grown)) | (go_at_call 84; (with_reducible refine seq_gw' (htl.out _ hX3.out) ?_); intro g4) | (at_builtin; (refine wpl_app tOp rfl (.tmp 27) (.tmp 33) rfl rfl (World.ownsRow_lit (base := g4.val.heap.size) (e := 56) (size := 3) g4.val #[] 0 (Nat.le_refl _) (by decide) rfl) rfl (src_sl Tryz.underlying24 (Sl.ext hmid.out ((hX.trans g4.grown).alloc _)) (rc_one _) (by have := hdI.out; have := hd.out; omega)) (by unfold maxLen; have := hdI.out; have := hd.out; omega) (by have := hdI.out; have := hd.out; omega) (by simp only [World.size_alloc]; omega) ?_; intro v5 w5 ho5 hg5 _; have o5 : OwnX w5 g4.val.heap.size v5 t'.flat := (by have h := ho5; have := own_appX (l := []) h; simpa using this); obtain ⟨P5, c5, rfl⟩ := own_form o5; rw [hd.out]; have hX5 := hide (ext_grown ((Ext.refl g4.val).alloc (.cells #[] 56)) hg5 (fun k hk => ((World.ownsRow_lit (base := g4.val.heap.size) (e := 56) (size := 3) g4.val #[] 0 (Nat.le_refl _) (by decide) rfl).lt k hk).1)); have hz5 := hX5.out.size; have hz4 := GW.size g4; replace o5 := hide o5)) | (at_builtin; (refine wpl_app tPart rfl (.tmp 35) (.tmp 36) rfl rfl (World.ownsRow_lit (base := w.heap.size) (e := 24) (size := 1) w5 #[.slice P5 d c5] 1 (by omega) (by decide) rfl) rfl (src_sl Tryz.underlying170 (Sl.own (S := []) (own_ext hus.out ((g4.grown.trans hX5.out).alloc _)) (by simp)) hone.out (by omega)) (by unfold maxLen; omega) (by omega) (by simp only [World.size_alloc]; omega) ?_; intro v6 w6 ho6 hg6 _)))
      go_roundg (K.length - (i + 1))
      case measure => omega
      case rel =>
        have hX6 := hide (ext_grown ((Ext.refl w5).alloc (.cells #[.slice P5 d c5] 24)) hg6 (fun k hk => (by have := (World.ownsRow_lit (base := w5.heap.size) (e := 24) (size := 1) w5 #[.slice P5 d c5] 1 (Nat.le_refl _) (by decide) rfl).lt k hk; exact this.1)))
        have hP6 := PartsIn.cons (w := w5) (base := w.heap.size) (fun j l hl => (let ⟨u, e, hw⟩ := hrr.out j l hl; ⟨u, e, Sl.ext hw (g4.grown.trans hX5.out)⟩)) (own_xw (S := []) o5.out (by simp)) hX6.out (by rw [List.length_map, ← hid.out]; rw [hd.out]; exact ho6)
        rw [hmapn] at hP6
        exact ⟨ks, t' :: done, p, i + 1, by go_num, rfl, by omega, hKn, hp.out.symm, (by show _ = _; rw [List.length_cons, hid.out]), by omega, hP6, hX.trans (g4.grown.trans (hX5.out.trans hX6.out))⟩
    · have hge : (K.length : Int) ≤ i := by omega
      have hks : done = K := by
        have := congrArg List.length hK.out
        rw [List.length_append] at this
        have e2 := hid.out
        have : ks = [] := List.eq_nil_of_length_eq_zero (by omega)
        rw [hK.out, this]; rfl
      rw [hks] at hP
      clear hK hqe hks
      go_wp2_with (go_at_call 129; (with_reducible refine seq_gw (htk.out _) ?_); intro g3)
      go_returns
      exact ⟨_, rfl, hP.ext g3.grown, hX.trans g3.grown⟩
end Go.Proofs.YtljkneajdndgjabGreat
set_option linter.unusedVariables false
set_option linter.unusedSimpArgs false
namespace Go.Proofs.YtljkneajdndgjabGreat
open Go.RowKit
attribute [local go_sem] GW.cell GW.frozen In.eq_true In.le_true In.ne In.ne' In.ne_add In.ne_add' In.lt_add Upto.le_true Upto.le_add Upto.lt_add
end Go.Proofs.YtljkneajdndgjabGreat
set_option linter.unusedVariables false
set_option linter.unusedSimpArgs false
namespace Go.Proofs.YtljkneajdndgjabGreat
open Go.RowKit
attribute [local go_sem] GW.cell GW.frozen In.eq_true In.le_true In.ne In.ne' In.ne_add In.ne_add' In.lt_add Upto.le_true Upto.le_add Upto.lt_add
end Go.Proofs.YtljkneajdndgjabGreat
set_option linter.unusedVariables false
set_option linter.unusedSimpArgs false
namespace Go.Proofs.YtljkneajdndgjabGreat
open Go.RowKit
attribute [local go_sem] GW.cell GW.frozen In.eq_true In.le_true In.ne In.ne' In.ne_add In.ne_add' In.lt_add Upto.le_true Upto.le_add Upto.lt_add
/-- The answers of parts, the first one first. -/
def evLx {α : Type} (f : Vl → List α → Except Int α) : List Tr → Except Int (List α)
  | [] => .ok []
  | t :: r => match evT f t with
    | .error e => .error e
    | .ok x => match evLx f r with
      | .error e => .error e
      | .ok xs => .ok (x :: xs)
theorem evT_kids {α : Type} (f : Vl → List α → Except Int α) (t : Tr) : evT f t = match evLx f t.kids with
    | .error e => .error e
    | .ok xs => f t.top xs := by
  cases t with
  | leaf o => rfl
  | one o a =>
    simp only [Tr.kids, Tr.top, evT, evLx]
    cases evT f a <;> rfl
  | two o a b =>
    simp only [Tr.kids, Tr.top, evT, evLx]
    cases evT f a with
    | error e => rfl
    | ok x => cases evT f b <;> rfl
theorem evLx_snoc {α : Type} (f : Vl → List α → Except Int α) : ∀ (K : List Tr) (t : Tr) (xs : List α), evLx f K = .ok xs → evLx f (K ++ [t]) = match evT f t with
    | .error e => .error e
    | .ok x => .ok (xs ++ [x])
  | [], t, xs, h => by
    simp only [evLx] at h
    injection h with h
    subst h
    simp only [List.nil_append, evLx]
    try (cases evT f t <;> rfl)
  | k :: K, t, xs, h => by
    simp only [evLx] at h
    cases hk : evT f k with
    | error e => rw [hk] at h; cases h
    | ok x =>
      rw [hk] at h
      simp only at h
      cases hK : evLx f K with
      | error e => rw [hK] at h; cases h
      | ok ys =>
        rw [hK] at h
        injection h with h
        subst h
        simp only [List.cons_append, evLx, hk, evLx_snoc f K t ys hK]
        cases evT f t <;> rfl
theorem evL_err {α : Type} (f : Vl → List α → Except Int α) : ∀ (K : List Tr) (i : Nat) (t : Tr) (xs : List α) (e : Int), K[i]? = some t → evLx f (K.take i) = .ok xs → evT f t = .error e → evLx f K = .error e
  | [], i, t, xs, e, h, _, _ => by simp at h
  | k :: K, 0, t, xs, e, h, _, he => by
    obtain rfl : k = t := by simpa using h
    simp only [evLx, he]
  | k :: K, i + 1, t, xs, e, h, hx, he => by
    simp only [List.take_succ_cons, evLx] at hx
    cases hk : evT f k with
    | error e => rw [hk] at hx; cases hx
    | ok x =>
      rw [hk] at hx
      simp only at hx
      cases hK : evLx f (K.take i) with
      | error e => rw [hK] at hx; cases hx
      | ok ys => simp only [evLx, hk, evL_err f K i t ys e (by simpa using h) hK he]
theorem parts_at {w : World} {base : Nat} {v : Value} {L : List (List Vl)} (h : PartsIn w base v L) (i : Nat) (l : List Vl) (hl : L[i]? = some l) : ∃ (g cap : Nat) (A : Option Addr) (c : Nat), v = .slice (some ⟨g, 0, none⟩) L.length cap ∧ g < w.heap.size ∧ w.cell? ⟨g, i, none⟩ = some (.slice A l.length c) ∧ Rw w [] (.slice A l.length c) l := by
  obtain ⟨us, ho, hr⟩ := h
  obtain ⟨u, hu, hw⟩ := hr i l hl
  obtain ⟨A, c, rfl, -⟩ := rw_form hw
  have hi := (List.getElem?_eq_some_iff.1 hl).1
  rcases ho.2 with ⟨_, h0⟩ | ⟨g, cap, cur, rfl, _⟩
  · omega
  · have c1 := ho.cells (g := g) rfl i _ hu
    rw [add_plain, Nat.zero_add] at c1
    exact ⟨g, cap, A, c, rfl, block_lt_of_cell c1, c1, hw⟩
end Go.Proofs.YtljkneajdndgjabGreat
set_option linter.unusedVariables false
set_option linter.unusedSimpArgs false
namespace Go.Proofs.YtljkneajdndgjabGreat
def resX (x : Except Int Vl) : Vl × Int := match x with
  | .ok u => (u, 0)
  | .error z => ((0, 0, ⟨#[]⟩), z)
theorem evX_tree {r : List Vl} {t : Tr} (hg : t.good) (h64 : t.flat.length ≤ 64) (hm : mayR r = true) : evX t.flat r = resX (evT (evF r) t) := by
  unfold evX
  rw [if_pos (formE_of hg h64), if_pos hm, runX_tree hg]; rfl
theorem exN_e0 {v e : Int} : exN v e ≠ .error 0 := by
  unfold exN
  split
  · simp
  · next h => simp [h]
theorem ofNums_e0 (c a b : Int) : ofNums c a b ≠ .error 0 := by
  unfold ofNums
  split
  · exact exN_e0
  split
  · exact exN_e0
  split
  · exact exN_e0
  split
  · exact exN_e0
  split
  · exact exN_e0
  split <;> simp
theorem evF_e0 (r : List Vl) (o : Vl) (xs : List Vl) : evF r o xs ≠ .error 0 := by
  match xs with
  | [] =>
    show ofNone r o ≠ _
    unfold ofNone
    split
    · simp
    split
    · simp
    split <;> simp
  | [a] =>
    show ofOne o.1 a ≠ _
    unfold ofOne
    split
    · split <;> simp
    split
    · split
      · simp
      · exact exN_e0
    · simp
  | a :: b :: _ =>
    show ofTwo o.1 a b ≠ _
    unfold ofTwo
    split
    · split
      · split <;> simp
      · simp
    split
    · split <;> simp
    split
    · exact ofNums_e0 _ _ _
    · simp
theorem evT_ne0 (r : List Vl) (t : Tr) : ∀ e, evT (evF r) t = .error e → e ≠ 0 := by
  induction t with
  | leaf o => rintro e h rfl; exact evF_e0 r o [] h
  | one o a iha =>
    rintro e h rfl
    simp only [evT] at h
    cases ha : evT (evF r) a with
    | error z => rw [ha] at h; exact iha 0 (by rw [ha]; exact h) rfl
    | ok x => rw [ha] at h; exact evF_e0 _ _ _ h
  | two o a b iha ihb =>
    rintro e h rfl
    simp only [evT] at h
    cases ha : evT (evF r) a with
    | error z => rw [ha] at h; exact iha 0 (by rw [ha]; exact h) rfl
    | ok x =>
      rw [ha] at h
      simp only at h
      cases hb : evT (evF r) b with
      | error z => rw [hb] at h; exact ihb 0 (by rw [hb]; exact h) rfl
      | ok y => rw [hb] at h; exact evF_e0 _ _ _ h
end Go.Proofs.YtljkneajdndgjabGreat
