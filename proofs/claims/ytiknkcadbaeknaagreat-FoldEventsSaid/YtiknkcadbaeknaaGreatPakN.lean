/-
  A helper of ours: no claim of its own. Layer 11 (pack): the edges of the table of pieces, by the document.
-/
import Derived.Test.YtiknkcadbaeknaaGreatPakY
import Derived.Test.YtiknkcadbaeknaaGreatEdgNd
set_option linter.unusedVariables false
set_option linter.unusedSimpArgs false
namespace Go.Proofs.YtiknkcadbaeknaaGreat
open Go.RowKit
attribute [local go_sem] GW.cell GW.frozen In.eq_true In.le_true In.ne In.ne' In.ne_add In.ne_add' In.lt_add Upto.le_true Upto.le_add Upto.lt_add
def oneX (u : Value) (r : List Vl) (j : Jp) : Fact := .st (fun v w => Sl w [] 3 v 1 (ec1 (u, r, j))) (fun _ _ _ h k => Sl.ext h k)
theorem allT {α : Type} {p : α → Bool} {l : List α} {k : Nat} {x : α} (h : (l.take k).all p = true) (hx : l[k]? = some x) (hp : p x = true) : (l.take (k + 1)).all p = true := by
  rw [List.take_add_one, hx, Option.toList_some, List.all_append, h]; simpa using hp
theorem allN {α : Type} {p : α → Bool} {l : List α} {k : Nat} {x : α} (hx : l[k]? = some x) (hp : p x = false) : l.all p = false := by
  rw [← Bool.not_eq_true, List.all_eq_true]
  intro h
  have := h x (List.mem_of_getElem? hx)
  rw [hp] at this; cases this
set_option maxHeartbeats 8000000 in
set_option maxRecDepth 100000 in
theorem refPcEdges_c (L : List Ve) (hL : L.length ≤ 512) (v : Value) (w : World) (h : Ew w [] v L) : Calls Tryz.prog 107 #[v] w fun e w' => ∃ v' M, e = .returned (.tuple #[v', .int .i64 (pkE (eds L))]) ∧ eds M = pkR (eds L) ∧ OwnEr w' w.heap.size v' M ∧ Ext w w' := by
  obtain ⟨A, cap, rfl, hlc, hlm, hat⟩ := ew_form h
  unfold maxLen at hlm
  have hv := hide h
  replace hat := hide hat
  obtain ⟨E, hE⟩ : ∃ E, E = pkE (eds L) := ⟨_, rfl⟩
  obtain ⟨R, hR⟩ : ∃ R, R = pkR (eds L) := ⟨_, rfl⟩
  rw [← hE, ← hR]
  have hbad : Hid ((eds L).all mayPc = false → E = 2 ∧ R = []) := fun h => by
    have : pkE (eds L) = 2 := by unfold pkE; rw [h, if_neg (by decide)]
    exact ⟨hE.trans this, by rw [hR]; unfold pkR; rw [this, if_neg (by decide)]⟩
  have hok : Hid ((eds L).all mayPc = true → E = neE (endsE (eds L)) ∧ R = neR (endsE (eds L))) := fun h => by
    have : pkE (eds L) = neE (endsE (eds L)) := by unfold pkE; rw [if_pos h, if_neg (by simp [eds]; omega)]
    refine ⟨hE.trans this, ?_⟩
    rw [hR]
    unfold pkR
    split
    · rfl
    · rename_i h2; rw [this] at h2; rw [neR_bad h2]
  have hlit := hide (World.ownsRow_lit (base := w.heap.size) (e := 147) (size := 3) w #[] 0 (Nat.le_refl _) (by decide) rfl)
  clear h hE hR
  have hLI : (L.length : Int) ≤ 512 := by omega
  go_enter Tryz.func107, Tryz.ntmps107
  go_wp2_with fail
  go_loopg [5] L.length (fun gh i wr => ∃ (k : Nat), i = .int .i64 k ∧ k + gh = L.length ∧ Hid (((eds L).take k).all mayPc = true) ∧ Ext (w.alloc (.cells #[] 147)) wr)
  case atStart => exact ⟨0, rfl, by omega, rfl, Ext.refl _⟩
  case round =>
    obtain ⟨k, rfl, hk, hno, hX0⟩ := hrel
    have hX : Ext w wr := ((Ext.refl w).alloc _).trans hX0
    by_cases hlt : k < L.length
    · obtain ⟨⟨xv, xr, xa, xn⟩, hx⟩ : ∃ x, L[k]? = some x := ⟨_, List.getElem?_eq_getElem hlt⟩
      obtain ⟨b, o, rfl, -, hbl, c0, c1, c2⟩ := hat.out k _ hx
      have k0 := cell_later hX c0
      have k1 := cell_later hX c1
      have k2 := cell_later hX c2
      have hbr : b < wr.heap.size := block_lt_of_cell k0
      have hxe : (eds L)[k]? = some (xr, (xa, xn)) := by simp [eds, hx]
      have hrx := Sl.ext (hv.out.2 _ (List.mem_of_getElem? hx)) hX
      simp only at k0 k1 k2 hrx
      have h1 := hide (refPcMay_c xr (xa, xn) xv wr hrx)
      obtain ⟨XA, xcap, rfl⟩ := rw_val hrx
      haveI : In b wr := ⟨hbr⟩
      clear hrx c0 c1 c2 hx hlit
      cases hm : mayPc (xr, (xa, xn))
      · rw [hm] at h1
        have hf := hide (hbad.out (allN hxe hm))
        clear hxe hbad hok
        go_wp2_with (go_at_call 162; (with_reducible refine seq_gw h1.out ?_); intro g)
        go_returns
        first | exact ⟨_, [], by rw [hf.out.1]; rfl, by rw [hf.out.2]; rfl, OwnEr.nil _ _, hX.trans g.grown⟩ | exact ⟨_, by rw [hf.out.1]; rfl, [], by rw [hf.out.2]; rfl, OwnEr.nil _ _, hX.trans g.grown⟩
      · rw [hm] at h1
        have hn2 : Hid (((eds L).take (k + 1)).all mayPc = true) := allT hno.out hxe hm
        clear hxe
        go_wp2_with (go_at_call 162; (with_reducible refine seq_gw h1.out ?_); intro g)
        go_roundg (L.length - (k + 1))
        case measure => omega
        case rel => exact ⟨k + 1, by go_num, by omega, hn2, hX0.trans g.grown⟩
    · have hk' : k = L.length := by omega
      have hge : (L.length : Int) ≤ k := by omega
      have hall : (eds L).all mayPc = true := by have := hno.out; rwa [List.take_of_length_le (by simp [eds]; omega)] at this
      replace hok := hide (hok.out hall)
      replace hk' := hide hk'
      have hlit1 := hide (own_ext hlit.out hX0)
      have hXs := hide hX
      clear hall hno hbad hlit hX0
      go_wp2_with fail
      go_loopg [4, 6] L.length (fun gh vv i wr => ∃ (k : Nat), i = .int .i64 k ∧ k + gh = L.length ∧ OwnE wr w.heap.size vv (endsV (L.take k)) ∧ Ext w wr)
      case atStart => exact ⟨0, rfl, by omega, hlit1.out, hXs.out⟩
      case round =>
        clear hge hk' hlit1 hXs
        clear hX
        obtain ⟨k, rfl, hk, ho, hX⟩ := hrel
        obtain ⟨wr2, hwr2⟩ : ∃ wr2, wr2 = wr := ⟨_, rfl⟩
        subst hwr2
        have hzX := hX.size
        by_cases hlt : k < L.length
        · obtain ⟨x, hx⟩ : ∃ x, L[k]? = some x := ⟨_, List.getElem?_eq_getElem hlt⟩
          obtain ⟨b0, o0, rfl, -, hb, c0, c1, c2⟩ := hat.out k x hx
          have k0 := hide (cell_later hX c0)
          have k1 := hide (cell_later hX c1)
          have k2 := hide (cell_later hX c2)
          have hrw0 := hide (hv.out.2 x (List.mem_of_getElem? hx))
          have hnx := hide (show endsV (L.take (k + 1)) = endsV (L.take k) ++ [(x.1, x.2.1, (x.2.2.1, 1)), (x.1, x.2.1, (x.2.2.2, -1))] by rw [List.take_add_one, hx, Option.toList_some, endsV_snoc])
          have hel : (endsV (L.take k)).length ≤ 2 * k := by rw [endsV_len, List.length_take]; omega
          obtain ⟨xv, xq, xa, xn⟩ := x
          simp only at k0 k1 k2 c0 c1 c2 hrw0 hnx
          obtain ⟨XA, xcap, exv⟩ := rw_val hrw0.out
          subst exv
          obtain ⟨Q, hQ⟩ : ∃ Q, Q = endsV (L.take k) := ⟨_, rfl⟩
          rw [← hQ] at ho hnx hel
          replace hQ := hide hQ
          obtain ⟨C, ccap, rfl⟩ := own_form ho
          have ho0 := hide ho
          clear hx ho hv hat
          replace c0 := hide c0
          replace c1 := hide c1
          replace c2 := hide c2
          go_wp2_with fail
          refine wp_region_list_tail 14 [(.is (.slice C Q.length ccap)), (.is (.slice (some ⟨b0, o0, none⟩) L.length cap)), (.is (.int .i64 k)), (.is (.pointer (some ⟨b0, o0 + k * 3, none⟩))), (.is (.pointer (some ⟨b0, o0 + k * 3, none⟩))), (.is (.slice XA xq.length xcap)), (.is (.slice (some ⟨b0, o0, none⟩) L.length cap)), (.is (.int .i64 k)), (.is (.pointer (some ⟨b0, o0 + k * 3, none⟩))), (.is (.pointer (some ⟨b0, o0 + k * 3 + 1, none⟩))), (.is (.pointer (some ⟨b0, o0 + k * 3 + 1, none⟩))), (.is (.int .i64 xa)), (.is (em (.slice XA xq.length xcap) (xa, 1))), oneX (.slice XA xq.length xcap) xq (xa, 1)] (by kernel_rfl) (by kernel_rfl) (by kernel_rfl) (by kernel_rfl) (by kernel_rfl) (by kernel_rfl) (by kernel_rfl) ?_ ?_
          · refine ⟨?_, ?_, ?_, ?_, ?_, ?_, ?_, ?_, ?_, ?_, ?_, ?_, ?_, ?_, trivial⟩
            · intro b w' h hE
              have f4 : b.tmps.getD 4 undef = .slice C Q.length ccap := hE 4 (of_decide_eq_true (by kernel_rfl))
              exact good_move (wanted_none rfl) rfl f4
            · intro b w' h hE
              have f0 : b.tmps.getD 0 undef = .slice (some ⟨b0, o0, none⟩) L.length cap := hE 0 (of_decide_eq_true (by kernel_rfl))
              exact good_move (wanted_none rfl) rfl f0
            · intro b w' h hE
              have f6 : b.tmps.getD 6 undef = .int .i64 k := hE 6 (of_decide_eq_true (by kernel_rfl))
              exact good_move (wanted_none rfl) rfl f6
            · intro b w' h hE
              have f30 : b.tmps.getD 30 undef = .slice (some ⟨b0, o0, none⟩) L.length cap := h.dep 1 _ 30 (by kernel_rfl) rfl rfl
              have f31 : b.tmps.getD 31 undef = .int .i64 k := h.dep 2 _ 31 (by kernel_rfl) rfl rfl
              exact good_index (wanted_none rfl) rfl f30 f31 (by simp [go_sem, hlt]) rfl
            · intro b w' h hE
              have f32 : b.tmps.getD 32 undef = .pointer (some ⟨b0, o0 + k * 3, none⟩) := h.dep 3 _ 32 (by kernel_rfl) rfl rfl
              exact good_field (wanted_none rfl) rfl f32 (by simp [go_sem]) rfl
            · intro b w' h hE
              have f33 : b.tmps.getD 33 undef = .pointer (some ⟨b0, o0 + k * 3, none⟩) := h.dep 4 _ 33 (by kernel_rfl) rfl rfl
              have c0 := cell_later h.ext k0.out
              exact good_load (wanted_none rfl) rfl f33 (by simp [go_sem, c0]) rfl
            · intro b w' h hE
              have f0 : b.tmps.getD 0 undef = .slice (some ⟨b0, o0, none⟩) L.length cap := hE 0 (of_decide_eq_true (by kernel_rfl))
              exact good_move (wanted_none rfl) rfl f0
            · intro b w' h hE
              have f6 : b.tmps.getD 6 undef = .int .i64 k := hE 6 (of_decide_eq_true (by kernel_rfl))
              exact good_move (wanted_none rfl) rfl f6
            · intro b w' h hE
              have f35 : b.tmps.getD 35 undef = .slice (some ⟨b0, o0, none⟩) L.length cap := h.dep 6 _ 35 (by kernel_rfl) rfl rfl
              have f36 : b.tmps.getD 36 undef = .int .i64 k := h.dep 7 _ 36 (by kernel_rfl) rfl rfl
              exact good_index (wanted_none rfl) rfl f35 f36 (by simp [go_sem, hlt]) rfl
            · intro b w' h hE
              have f37 : b.tmps.getD 37 undef = .pointer (some ⟨b0, o0 + k * 3, none⟩) := h.dep 8 _ 37 (by kernel_rfl) rfl rfl
              exact good_field (wanted_none rfl) rfl f37 (by simp [go_sem]) rfl
            · intro b w' h hE
              have f38 : b.tmps.getD 38 undef = .pointer (some ⟨b0, o0 + k * 3 + 1, none⟩) := h.dep 9 _ 38 (by kernel_rfl) rfl rfl
              exact good_field (wanted_none rfl) rfl f38 (by simp [go_sem]) rfl
            · intro b w' h hE
              have f39 : b.tmps.getD 39 undef = .pointer (some ⟨b0, o0 + k * 3 + 1, none⟩) := h.dep 10 _ 39 (by kernel_rfl) rfl rfl
              have c0 := cell_later h.ext k1.out
              exact good_load (wanted_none rfl) rfl f39 (by simp [go_sem, c0]) rfl
            · intro b w' h hE
              have f34 : b.tmps.getD 34 undef = .slice XA xq.length xcap := h.dep 5 _ 34 (by kernel_rfl) rfl rfl
              have g34 : b.tmps[34]?.getD undef = .slice XA xq.length xcap := by rw [← Array.getD_eq_getD_getElem?]; exact f34
              have f40 : b.tmps.getD 40 undef = .int .i64 xa := h.dep 11 _ 40 (by kernel_rfl) rfl rfl
              have g40 : b.tmps[40]?.getD undef = .int .i64 xa := by rw [← Array.getD_eq_getD_getElem?]; exact f40
              exact good_run (wanted_none rfl) (by simp [execOp, Act.eval, go_sem, g34, g40, Sem.run_bind, Sem.run_pure, Result.andThen_ok]) rfl
            · intro b w' h hE
              have f41 : b.tmps.getD 41 undef = em (.slice XA xq.length xcap) (xa, 1) := h.dep 12 _ 41 (by kernel_rfl) rfl rfl
              have g41 : b.tmps[41]?.getD undef = em (.slice XA xq.length xcap) (xa, 1) := by rw [← Array.getD_eq_getD_getElem?]; exact f41
              have := buildE1 XA xq.length xcap (xa, 1) w'
              refine good_grow (w' := w'.alloc (.cells #[.slice XA xq.length xcap, .int .i64 xa, .int .i64 1] 147)) (v := .slice (some ⟨w'.heap.size, 0, none⟩) 1 1) (wanted_none rfl) ?_ (oneE_new (.slice XA xq.length xcap) xq (xa, 1) w') ((Ext.refl _).alloc _)
              simp [execOp, Act.eval, g41, this, Sem.run_bind, Sem.run_pure, Result.andThen_ok]
          · intro b w2 hX2 hd hz he' hf
            have e29 : b.tmps.getD 29 undef = .slice C Q.length ccap := hf 0 _ 29 (by omega) rfl rfl
            have e30 : b.tmps.getD 30 undef = .slice (some ⟨b0, o0, none⟩) L.length cap := hf 1 _ 30 (by omega) rfl rfl
            have e31 : b.tmps.getD 31 undef = .int .i64 k := hf 2 _ 31 (by omega) rfl rfl
            have e32 : b.tmps.getD 32 undef = .pointer (some ⟨b0, o0 + k * 3, none⟩) := hf 3 _ 32 (by omega) rfl rfl
            have e33 : b.tmps.getD 33 undef = .pointer (some ⟨b0, o0 + k * 3, none⟩) := hf 4 _ 33 (by omega) rfl rfl
            have e34 : b.tmps.getD 34 undef = .slice XA xq.length xcap := hf 5 _ 34 (by omega) rfl rfl
            have e35 : b.tmps.getD 35 undef = .slice (some ⟨b0, o0, none⟩) L.length cap := hf 6 _ 35 (by omega) rfl rfl
            have e36 : b.tmps.getD 36 undef = .int .i64 k := hf 7 _ 36 (by omega) rfl rfl
            have e37 : b.tmps.getD 37 undef = .pointer (some ⟨b0, o0 + k * 3, none⟩) := hf 8 _ 37 (by omega) rfl rfl
            have e38 : b.tmps.getD 38 undef = .pointer (some ⟨b0, o0 + k * 3 + 1, none⟩) := hf 9 _ 38 (by omega) rfl rfl
            have e39 : b.tmps.getD 39 undef = .pointer (some ⟨b0, o0 + k * 3 + 1, none⟩) := hf 10 _ 39 (by omega) rfl rfl
            have e40 : b.tmps.getD 40 undef = .int .i64 xa := hf 11 _ 40 (by omega) rfl rfl
            have e41 : b.tmps.getD 41 undef = em (.slice XA xq.length xcap) (xa, 1) := hf 12 _ 41 (by omega) rfl rfl
            have f42 : Sl w2 [] 3 (b.tmps.getD 42 undef) 1 (ec1 (.slice XA xq.length xcap, xq, (xa, 1))) := hf 13 _ 42 (by omega) rfl rfl
            have e := frame_puts hd hz he'
            obtain ⟨X, hXx⟩ : ∃ X : Nat → Value, ∀ d, b.tmps.getD d undef = X d := ⟨_, fun _ => rfl⟩
            rw [hXx] at e29 e30 e31 e32 e33 e34 e35 e36 e37 e38 e39 e40 e41 f42
            obtain ⟨A42, c42, q42⟩ := sl_form f42
            rw [show dstsOf _ = [29, 30, 31, 32, 33, 34, 35, 36, 37, 38, 39, 40, 41, 42] from rfl] at e
            simp only [List.foldl_cons, List.foldl_nil, hXx, Act.put, List.setIfInBounds_toArray, List.set_cons_succ, List.set_cons_zero] at e
            rw [e29, e30, e31, e32, e33, e34, e35, e36, e37, e38, e39, e40, e41, q42] at e
            rw [q42] at f42
            replace f42 := hide f42
            clear hf he' hz hd hXx e29 e30 e31 e32 e33 e34 e35 e36 e37 e38 e39 e40 e41 q42
            subst e
            have hzw := hX2.size
            simp only [List.drop_succ_cons, List.drop_zero]
            have hX3 := hide (hX.trans hX2)
            have hzX2 := hX2.size
            go_wp2_with (at_builtin; (refine wpl_app tEdg rfl (.tmp 29) (.tmp 42) rfl rfl (own_ext ho0.out hX2) rfl (src_sl Tryz.underlying83 f42.out (ec1_one rfl) (by omega)) (by unfold maxLen; omega) (by omega) (Nat.le_trans hzX hX2.size) ?_; intro v8 w8 ho8 hg8 hob8; have hX8 := hide (ext_grown hX3.out hg8 (fun q hq => (ho0.out.lt q hq).1))))
            have hQ1 := hide (own_appE (M := [(.slice XA xq.length xcap, xq, (xa, (1 : Int)))]) (by simpa [ec, ec1] using ho8))
            have m0 := hide (cell_later hX8.out c0)
            have m1 := hide (cell_later hX8.out c1)
            have m2 := hide (cell_later hX8.out c2)
            have hzX8 := hX8.out.size
            have hrx8 := hide (Sl.ext hrw0.out hX8.out)
            have hQl : (Q ++ [(Value.slice XA xq.length xcap, xq, (xa, (1 : Int)))]).length = Q.length + 1 := by simp
            obtain ⟨Q2, hQ2⟩ : ∃ Q2, Q2 = Q ++ [(Value.slice XA xq.length xcap, xq, (xa, (1 : Int)))] := ⟨_, rfl⟩
            rw [← hQ2] at hQ1 hQl
            obtain ⟨C8, ccap8, e8⟩ := own_form hQ1.out
            subst e8
            clear ho8 hg8 hob8 f42
            clear k0 k1 k2 hX3 hX2 hzX2 hzw
            refine wp_region_list_tail 14 [(.is (.slice C8 Q2.length ccap8)), (.is (.slice (some ⟨b0, o0, none⟩) L.length cap)), (.is (.int .i64 k)), (.is (.pointer (some ⟨b0, o0 + k * 3, none⟩))), (.is (.pointer (some ⟨b0, o0 + k * 3, none⟩))), (.is (.slice XA xq.length xcap)), (.is (.slice (some ⟨b0, o0, none⟩) L.length cap)), (.is (.int .i64 k)), (.is (.pointer (some ⟨b0, o0 + k * 3, none⟩))), (.is (.pointer (some ⟨b0, o0 + k * 3 + 1, none⟩))), (.is (.pointer (some ⟨b0, o0 + k * 3 + 1 + 1, none⟩))), (.is (.int .i64 xn)), (.is (em (.slice XA xq.length xcap) (xn, (-1)))), oneX (.slice XA xq.length xcap) xq (xn, (-1))] (by kernel_rfl) (by kernel_rfl) (by kernel_rfl) (by kernel_rfl) (by kernel_rfl) (by kernel_rfl) (by kernel_rfl) ?_ ?_
            · refine ⟨?_, ?_, ?_, ?_, ?_, ?_, ?_, ?_, ?_, ?_, ?_, ?_, ?_, ?_, trivial⟩
              · intro b w' h hE
                have f4 : b.tmps.getD 4 undef = .slice C8 Q2.length ccap8 := hE 4 (of_decide_eq_true (by kernel_rfl))
                exact good_move (wanted_none rfl) rfl f4
              · intro b w' h hE
                have f0 : b.tmps.getD 0 undef = .slice (some ⟨b0, o0, none⟩) L.length cap := hE 0 (of_decide_eq_true (by kernel_rfl))
                exact good_move (wanted_none rfl) rfl f0
              · intro b w' h hE
                have f6 : b.tmps.getD 6 undef = .int .i64 k := hE 6 (of_decide_eq_true (by kernel_rfl))
                exact good_move (wanted_none rfl) rfl f6
              · intro b w' h hE
                have f45 : b.tmps.getD 45 undef = .slice (some ⟨b0, o0, none⟩) L.length cap := h.dep 1 _ 45 (by kernel_rfl) rfl rfl
                have f46 : b.tmps.getD 46 undef = .int .i64 k := h.dep 2 _ 46 (by kernel_rfl) rfl rfl
                exact good_index (wanted_none rfl) rfl f45 f46 (by simp [go_sem, hlt]) rfl
              · intro b w' h hE
                have f47 : b.tmps.getD 47 undef = .pointer (some ⟨b0, o0 + k * 3, none⟩) := h.dep 3 _ 47 (by kernel_rfl) rfl rfl
                exact good_field (wanted_none rfl) rfl f47 (by simp [go_sem]) rfl
              · intro b w' h hE
                have f48 : b.tmps.getD 48 undef = .pointer (some ⟨b0, o0 + k * 3, none⟩) := h.dep 4 _ 48 (by kernel_rfl) rfl rfl
                have c0 := cell_later h.ext m0.out
                exact good_load (wanted_none rfl) rfl f48 (by simp [go_sem, c0]) rfl
              · intro b w' h hE
                have f0 : b.tmps.getD 0 undef = .slice (some ⟨b0, o0, none⟩) L.length cap := hE 0 (of_decide_eq_true (by kernel_rfl))
                exact good_move (wanted_none rfl) rfl f0
              · intro b w' h hE
                have f6 : b.tmps.getD 6 undef = .int .i64 k := hE 6 (of_decide_eq_true (by kernel_rfl))
                exact good_move (wanted_none rfl) rfl f6
              · intro b w' h hE
                have f50 : b.tmps.getD 50 undef = .slice (some ⟨b0, o0, none⟩) L.length cap := h.dep 6 _ 50 (by kernel_rfl) rfl rfl
                have f51 : b.tmps.getD 51 undef = .int .i64 k := h.dep 7 _ 51 (by kernel_rfl) rfl rfl
                exact good_index (wanted_none rfl) rfl f50 f51 (by simp [go_sem, hlt]) rfl
              · intro b w' h hE
                have f52 : b.tmps.getD 52 undef = .pointer (some ⟨b0, o0 + k * 3, none⟩) := h.dep 8 _ 52 (by kernel_rfl) rfl rfl
                exact good_field (wanted_none rfl) rfl f52 (by simp [go_sem]) rfl
              · intro b w' h hE
                have f53 : b.tmps.getD 53 undef = .pointer (some ⟨b0, o0 + k * 3 + 1, none⟩) := h.dep 9 _ 53 (by kernel_rfl) rfl rfl
                exact good_field (wanted_none rfl) rfl f53 (by simp [go_sem]) rfl
              · intro b w' h hE
                have f54 : b.tmps.getD 54 undef = .pointer (some ⟨b0, o0 + k * 3 + 1 + 1, none⟩) := h.dep 10 _ 54 (by kernel_rfl) rfl rfl
                have c0 := cell_later h.ext m2.out
                exact good_load (wanted_none rfl) rfl f54 (by simp [go_sem, c0]) rfl
              · intro b w' h hE
                have f49 : b.tmps.getD 49 undef = .slice XA xq.length xcap := h.dep 5 _ 49 (by kernel_rfl) rfl rfl
                have g49 : b.tmps[49]?.getD undef = .slice XA xq.length xcap := by rw [← Array.getD_eq_getD_getElem?]; exact f49
                have f55 : b.tmps.getD 55 undef = .int .i64 xn := h.dep 11 _ 55 (by kernel_rfl) rfl rfl
                have g55 : b.tmps[55]?.getD undef = .int .i64 xn := by rw [← Array.getD_eq_getD_getElem?]; exact f55
                exact good_run (wanted_none rfl) (by simp [execOp, Act.eval, go_sem, g49, g55, Sem.run_bind, Sem.run_pure, Result.andThen_ok]) rfl
              · intro b w' h hE
                have f56 : b.tmps.getD 56 undef = em (.slice XA xq.length xcap) (xn, (-1)) := h.dep 12 _ 56 (by kernel_rfl) rfl rfl
                have g56 : b.tmps[56]?.getD undef = em (.slice XA xq.length xcap) (xn, (-1)) := by rw [← Array.getD_eq_getD_getElem?]; exact f56
                have := buildE1 XA xq.length xcap (xn, (-1)) w'
                refine good_grow (w' := w'.alloc (.cells #[.slice XA xq.length xcap, .int .i64 xn, .int .i64 (-1)] 147)) (v := .slice (some ⟨w'.heap.size, 0, none⟩) 1 1) (wanted_none rfl) ?_ (oneE_new (.slice XA xq.length xcap) xq (xn, (-1)) w') ((Ext.refl _).alloc _)
                simp [execOp, Act.eval, g56, this, Sem.run_bind, Sem.run_pure, Result.andThen_ok]
            · intro b w2 hX2 hd hz he' hf
              have e44 : b.tmps.getD 44 undef = .slice C8 Q2.length ccap8 := hf 0 _ 44 (by omega) rfl rfl
              have e45 : b.tmps.getD 45 undef = .slice (some ⟨b0, o0, none⟩) L.length cap := hf 1 _ 45 (by omega) rfl rfl
              have e46 : b.tmps.getD 46 undef = .int .i64 k := hf 2 _ 46 (by omega) rfl rfl
              have e47 : b.tmps.getD 47 undef = .pointer (some ⟨b0, o0 + k * 3, none⟩) := hf 3 _ 47 (by omega) rfl rfl
              have e48 : b.tmps.getD 48 undef = .pointer (some ⟨b0, o0 + k * 3, none⟩) := hf 4 _ 48 (by omega) rfl rfl
              have e49 : b.tmps.getD 49 undef = .slice XA xq.length xcap := hf 5 _ 49 (by omega) rfl rfl
              have e50 : b.tmps.getD 50 undef = .slice (some ⟨b0, o0, none⟩) L.length cap := hf 6 _ 50 (by omega) rfl rfl
              have e51 : b.tmps.getD 51 undef = .int .i64 k := hf 7 _ 51 (by omega) rfl rfl
              have e52 : b.tmps.getD 52 undef = .pointer (some ⟨b0, o0 + k * 3, none⟩) := hf 8 _ 52 (by omega) rfl rfl
              have e53 : b.tmps.getD 53 undef = .pointer (some ⟨b0, o0 + k * 3 + 1, none⟩) := hf 9 _ 53 (by omega) rfl rfl
              have e54 : b.tmps.getD 54 undef = .pointer (some ⟨b0, o0 + k * 3 + 1 + 1, none⟩) := hf 10 _ 54 (by omega) rfl rfl
              have e55 : b.tmps.getD 55 undef = .int .i64 xn := hf 11 _ 55 (by omega) rfl rfl
              have e56 : b.tmps.getD 56 undef = em (.slice XA xq.length xcap) (xn, (-1)) := hf 12 _ 56 (by omega) rfl rfl
              have f57 : Sl w2 [] 3 (b.tmps.getD 57 undef) 1 (ec1 (.slice XA xq.length xcap, xq, (xn, (-1)))) := hf 13 _ 57 (by omega) rfl rfl
              have e := frame_puts hd hz he'
              obtain ⟨X, hXx⟩ : ∃ X : Nat → Value, ∀ d, b.tmps.getD d undef = X d := ⟨_, fun _ => rfl⟩
              rw [hXx] at e44 e45 e46 e47 e48 e49 e50 e51 e52 e53 e54 e55 e56 f57
              obtain ⟨A57, c57, q57⟩ := sl_form f57
              rw [show dstsOf _ = [44, 45, 46, 47, 48, 49, 50, 51, 52, 53, 54, 55, 56, 57] from rfl] at e
              simp only [List.foldl_cons, List.foldl_nil, hXx, Act.put, List.setIfInBounds_toArray, List.set_cons_succ, List.set_cons_zero] at e
              rw [e44, e45, e46, e47, e48, e49, e50, e51, e52, e53, e54, e55, e56, q57] at e
              rw [q57] at f57
              replace f57 := hide f57
              clear hf he' hz hd hXx e44 e45 e46 e47 e48 e49 e50 e51 e52 e53 e54 e55 e56 q57
              subst e
              have hzw := hX2.size
              simp only [List.drop_succ_cons, List.drop_zero]
              have hX9 := hide (hX8.out.trans hX2)
              have hzX2 := hX2.size
              go_wp2_with (at_builtin; (refine wpl_app tEdg rfl (.tmp 44) (.tmp 57) rfl rfl (own_ext hQ1.out hX2) rfl (src_sl Tryz.underlying83 f57.out (ec1_one rfl) (by omega)) (by unfold maxLen; omega) (by omega) (Nat.le_trans hzX8 hX2.size) ?_; intro v9 w9 ho9 hg9 hob9; have hX10 := hide (ext_grown hX9.out hg9 (fun q hq => (hQ1.out.lt q hq).1))))
              go_roundg (L.length - (k + 1))
              case measure => omega
              case rel =>
                have hQ3 := own_appE (M := [(.slice XA xq.length xcap, xq, (xn, (-1 : Int)))]) (by simpa [ec, ec1] using ho9)
                rw [hQ2, List.append_assoc] at hQ3
                exact ⟨k + 1, by go_num, by omega, by rw [hnx.out]; exact hQ3, hX10.out⟩
        · have hk' : k = L.length := by omega
          have hge : (L.length : Int) ≤ k := by omega
          rw [hk', List.take_length] at ho
          replace hk' := hide hk'
          obtain ⟨C, ccap, e4⟩ := own_form ho
          subst e4
          have hM : Ew _ [] (.slice C (endsV L).length ccap) (endsV L) := ⟨Sl.own ho (by simp), fun p hp => by
            obtain ⟨q, hq, e1, e2⟩ := endsV_mem hp
            rw [e1, e2]
            exact Sl.ext (hv.out.2 q hq) hX⟩
          have hn := hide (refEdgeNorm_c (endsV L) (by rw [endsV_len]; omega) _ _ hM)
          rw [endsV_eds] at hn
          clear hat hM ho hv
          go_wp2_with (go_at_call 163; refine hn.out.mono ?_; rintro ee w3 ⟨v3, M, rfl, hM, ho3, hX3⟩)
          go_returns
          exact ⟨_, M, by rw [hok.out.1]; rfl, by rw [hM, hok.out.2], ho3.lower hzX, hX.trans hX3⟩
end Go.Proofs.YtiknkcadbaeknaaGreat
