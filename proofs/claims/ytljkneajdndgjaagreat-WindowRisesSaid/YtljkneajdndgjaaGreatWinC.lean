/-
  A helper of ours: no claim of its own. Layer 30 (window): windows ahead of a tick, by the document.
-/
import Derived.Test.YtljkneajdndgjaaGreatHopT
import Derived.Test.YtljkneajdndgjaaGreatHopS
import Derived.Test.YtljkneajdndgjaaGreatRowD
import Derived.Test.YtljkneajdndgjaaGreatHopF1
import Derived.Test.YtljkneajdndgjaaGreatSnaS
import Derived.Test.YtljkneajdndgjaaGreatEdgRo
import Derived.Test.YtljkneajdndgjaaGreatWindowClocksF
set_option linter.unusedVariables false
set_option linter.unusedSimpArgs false
namespace Go.Proofs.YtljkneajdndgjaaGreat
open Go.RowKit
attribute [local go_sem] GW.cell GW.frozen In.eq_true In.le_true In.ne In.ne' In.ne_add In.ne_add' In.lt_add Upto.le_true Upto.le_add Upto.lt_add
def hpF (l : List Ed) (s h f r : Int) (B : Nat) (v : Value) (w : World) : Prop := ∃ v' P, v = .tuple #[v', .int .i64 (hpE l s h f r)] ∧ pts P = hpL l s h f r ∧ OwnP w B v' P
theorem hpF.ext {l : List Ed} {s h f r : Int} {B : Nat} {v : Value} {w w' : World} (a : hpF l s h f r B v w) (k : Ext w w') : hpF l s h f r B v w' := by obtain ⟨v', P, h1, h2, h3⟩ := a; exact ⟨v', P, h1, h2, h3.ext k⟩
def hqF (l : List Ed) (s h f r : Int) (B : Nat) (v : Value) (w : World) : Prop := ∃ P, pts P = hpL l s h f r ∧ OwnP w B v P
theorem hqF.ext {l : List Ed} {s h f r : Int} {B : Nat} {v : Value} {w w' : World} (a : hqF l s h f r B v w) (k : Ext w w') : hqF l s h f r B v w' := by obtain ⟨P, h2, h3⟩ := a; exact ⟨P, h2, h3.ext k⟩
def eqF (x v : Value) (_ : World) : Prop := v = x
set_option maxHeartbeats 8000000 in
set_option maxRecDepth 100000 in
theorem wparts_c (k s q : Int) (L : List Ve) (f t : Int) (v : Value) (w : World) (hC : Ew w [] v L) : Calls Tryz.prog 16 #[wV k s q, v, .int .i64 f, .int .i64 t] w fun e w' => ∃ v' P, e = .returned (.tuple #[v', .int .i64 (wpE k s q (eds L) f t)]) ∧ pts P = wpL k s q (eds L) f t ∧ OwnP w' w.heap.size v' P ∧ Ext w w' := by
  have hw := hide (fun w' (hX : Ext w w') => wwrong_c k s q L t v w' (hC.ext hX))
  have hcp := hide (fun w' (hX : Ext w w') => cpParts_c L s f v w' (hC.ext hX))
  have hsp := hide (fun w' (hX : Ext w w') => snParts_c L f v w' (hC.ext hX))
  have hhp0 := hide (fun R w' (hX : Ext w w') => hpParts_c L s q f R v w' (hC.ext hX))
  have hfr0 := hide (fun hm w' (hX : Ext w w') => wfront_c L hm t v w' (hC.ext hX))
  obtain ⟨A, cap, rfl, hlc, hlm, -⟩ := ew_form hC
  clear hC
  obtain ⟨E, hE⟩ : ∃ E, E = wrE k s q (eds L) t := ⟨_, rfl⟩
  rw [← hE] at hw
  have hb := hide (Ob.new w 24 (wL k s q))
  have c0 := hb.out.cell 0 rfl
  have c1 := hb.out.cell 1 rfl
  have c2 := hb.out.cell 2 rfl
  have hl := hb.out.lt
  haveI : In w.heap.size (w.alloc (.cells #[.int .i64 k, .int .i64 s, .int .i64 q] 24)) := ⟨hl⟩
  by_cases hE0 : E = 0
  case neg =>
    have e1 : wpE k s q (eds L) f t = E := by unfold wpE; rw [← hE, if_neg hE0]
    have e2 : wpL k s q (eds L) f t = [] := by unfold wpL; rw [← hE, if_neg hE0]
    rw [e1, e2]
    have hbE : (E != 0) = true := by simpa using hE0
    replace hE := hide hE
    clear e1 e2
    go_enter Tryz.func16, Tryz.ntmps16
    go_wp2_with (go_at_call 32; (with_reducible refine seq_gw (hw.out _ ((Ext.refl w).alloc _)) ?_); intro g1)
    go_returns
    exact ⟨_, [], rfl, rfl, OwnP.nil _ _, ((Ext.refl w).alloc _).trans g1.grown⟩
  subst hE0
  obtain ⟨a1, a2, a3, a4, a5⟩ := wrE_zero hE.symm
  obtain ⟨V, hV⟩ : ∃ V, V = wpE k s q (eds L) f t := ⟨_, rfl⟩
  obtain ⟨U, hU⟩ : ∃ U, U = wpL k s q (eds L) f t := ⟨_, rfl⟩
  rw [← hV, ← hU]
  have hVe : V = if k = 2 then hpE (eds L) s q f (frV (eds L) t) else if k = 3 then cpE (eds L) s f else snE (eds L) f := by rw [hV]; unfold wpE; rw [← hE, if_pos rfl]
  have hUe : U = if k = 2 then hpL (eds L) s q f (frV (eds L) t) else if k = 3 then cpL (eds L) s f else snL (eds L) f := by rw [hU]; unfold wpL; rw [← hE, if_pos rfl]
  clear hV hU
  rcases wmay_kind a1 with ⟨rfl, -, -⟩ | ⟨rfl, -, -⟩ | ⟨rfl, -, -⟩
  · rw [if_neg (by decide), if_neg (by decide)] at hVe hUe
    rw [← hVe, ← hUe] at hsp
    replace hE := hide hE
    replace hVe := hide hVe
    replace hUe := hide hUe
    clear a1 a2 a3 a4 a5
    go_enter Tryz.func16, Tryz.ntmps16
    go_wp2_with (first | (go_at_call 32; (with_reducible refine seq_gw (hw.out _ ((Ext.refl w).alloc _)) ?_); intro g1) | (go_at_call 29; refine (hsp.out _ (((Ext.refl w).alloc _).trans g1.grown)).mono ?_; rintro ee w5 ⟨v5, P, rfl, hP, ho5, hx5⟩; have hP5 := hide hP; have hX5 := hide ((((Ext.refl w).alloc _).trans g1.grown).trans hx5); have ho6 := hide (ho5.base (((Ext.refl w).alloc (.cells #[.int .i64 1, .int .i64 s, .int .i64 q] 24)).trans g1.grown).size); obtain ⟨A5, c5, q5⟩ := ho5.form; subst q5; clear hP ho5 hx5))
    go_returns
    exact ⟨_, P, rfl, hP5.out, ho6.out, hX5.out⟩
  · rw [if_pos rfl] at hVe hUe
    have hfr1 := hide (hfr0.out a2)
    obtain ⟨R, hR⟩ : ∃ R, R = frV (eds L) t := ⟨_, rfl⟩
    rw [← hR] at hVe hUe hfr1
    subst hVe
    subst hUe
    replace hE := hide hE
    replace hR := hide hR
    clear a1 a2 a3 a4 a5
    go_enter Tryz.func16, Tryz.ntmps16
    go_upto_region 6 with (go_at_call 32; (with_reducible refine seq_gw (hw.out _ ((Ext.refl w).alloc _)) ?_); intro g1)
    obtain ⟨W1, hW1⟩ : ∃ W1, W1 = g1.val := ⟨_, rfl⟩
    have hXW := hide (((Ext.refl w).alloc (.cells #[.int .i64 2, .int .i64 s, .int .i64 q] 24)).trans g1.grown)
    have hb1 := hb.out.ext g1.grown
    have hc1 := hide (hb1.cell 1 rfl)
    have hc2 := hide (hb1.cell 2 rfl)
    rw [← hW1] at hXW hb1 hc1 hc2 ⊢
    have hzW := hXW.out.size
    have hfr := hide (fun w' (hX : Ext W1 w') => hfr1.out w' (hXW.out.trans hX))
    have hhp := hide (fun w' (hX : Ext W1 w') => hhp0.out R w' (hXW.out.trans hX))
    obtain ⟨bw, hbw⟩ : ∃ bw, bw = w.heap.size := ⟨_, rfl⟩
    rw [← hbw] at hb1 hc1 hc2 ⊢
    clear hbw hW1
    clear c0 c1 c2 hl
    refine wp_region_list_tail 12 [(.is ((.slice A L.length cap))), (.is ((.pointer (some ⟨bw, 1, none⟩)))), (.is ((.int .i64 s))), (.is ((.pointer (some ⟨bw, 2, none⟩)))), (.is ((.int .i64 q))), (.is ((.int .i64 f))), (.is ((.slice A L.length cap))), (.is ((.int .i64 t))), (.is ((.int .i64 R))), (.st (hpF (eds L) s q f R W1.heap.size) (fun _ _ _ h k => h.ext k)), (.st (hqF (eds L) s q f R W1.heap.size) (fun _ _ _ h k => h.ext k)), (.st (eqF (.int .i64 (hpE (eds L) s q f R))) (fun _ _ _ h _ => h))] (by kernel_rfl) (by kernel_rfl) (by kernel_rfl) (by kernel_rfl) (by kernel_rfl) (by kernel_rfl) (by kernel_rfl) ?_ ?_
    · refine ⟨?_, ?_, ?_, ?_, ?_, ?_, ?_, ?_, ?_, ?_, ?_, ?_, trivial⟩
      · intro b w' h hE
        have f1 : b.tmps.getD 1 undef = (.slice A L.length cap) := hE 1 (of_decide_eq_true (by kernel_rfl))
        exact good_move (wanted_none rfl) rfl f1
      · intro b w' h hE
        have f4 : b.tmps.getD 4 undef = (.pointer (some ⟨bw, 0, none⟩)) := hE 4 (of_decide_eq_true (by kernel_rfl))
        exact good_field (wanted_none rfl) rfl f4 (by simp [go_sem]) rfl
      · intro b w' h hE
        have f23 : b.tmps.getD 23 undef = (.pointer (some ⟨bw, 1, none⟩)) := h.dep 1 _ 23 (by kernel_rfl) rfl rfl
        have c0 := cell_later h.ext hc1.out
        exact good_load (wanted_none rfl) rfl f23 (by simp [go_sem, c0]) rfl
      · intro b w' h hE
        have f4 : b.tmps.getD 4 undef = (.pointer (some ⟨bw, 0, none⟩)) := hE 4 (of_decide_eq_true (by kernel_rfl))
        exact good_field (wanted_none rfl) rfl f4 (by simp [go_sem]) rfl
      · intro b w' h hE
        have f25 : b.tmps.getD 25 undef = (.pointer (some ⟨bw, 2, none⟩)) := h.dep 3 _ 25 (by kernel_rfl) rfl rfl
        have c0 := cell_later h.ext hc2.out
        exact good_load (wanted_none rfl) rfl f25 (by simp [go_sem, c0]) rfl
      · intro b w' h hE
        have f2 : b.tmps.getD 2 undef = (.int .i64 f) := hE 2 (of_decide_eq_true (by kernel_rfl))
        exact good_move (wanted_none rfl) rfl f2
      · intro b w' h hE
        have f1 : b.tmps.getD 1 undef = (.slice A L.length cap) := hE 1 (of_decide_eq_true (by kernel_rfl))
        exact good_move (wanted_none rfl) rfl f1
      · intro b w' h hE
        have f3 : b.tmps.getD 3 undef = (.int .i64 t) := hE 3 (of_decide_eq_true (by kernel_rfl))
        exact good_move (wanted_none rfl) rfl f3
      · intro b w' h hE
        have f28 : b.tmps.getD 28 undef = (.slice A L.length cap) := h.dep 6 _ 28 (by kernel_rfl) rfl rfl
        have g28 : b.tmps[28]?.getD undef = (.slice A L.length cap) := by rw [← Array.getD_eq_getD_getElem?]; exact f28
        have f29 : b.tmps.getD 29 undef = (.int .i64 t) := h.dep 7 _ 29 (by kernel_rfl) rfl rfl
        have g29 : b.tmps[29]?.getD undef = (.int .i64 t) := by rw [← Array.getD_eq_getD_getElem?]; exact f29
        (refine good_call (wanted_none rfl) rfl (enters Tryz.func40 (by kernel_rfl) rfl) ?_; rw [show (#[.tmp 28, .tmp 29] : Array Operand).map b.eval = #[.slice A L.length cap, .int .i64 t] by simp [Act.eval, g28, g29]]; exact (hfr.out w' h.ext).mono fun e w1 ⟨he, hx⟩ => ⟨_, he, rfl, hx⟩)
      · intro b w' h hE
        have f22 : b.tmps.getD 22 undef = (.slice A L.length cap) := h.dep 0 _ 22 (by kernel_rfl) rfl rfl
        have g22 : b.tmps[22]?.getD undef = (.slice A L.length cap) := by rw [← Array.getD_eq_getD_getElem?]; exact f22
        have f24 : b.tmps.getD 24 undef = (.int .i64 s) := h.dep 2 _ 24 (by kernel_rfl) rfl rfl
        have g24 : b.tmps[24]?.getD undef = (.int .i64 s) := by rw [← Array.getD_eq_getD_getElem?]; exact f24
        have f26 : b.tmps.getD 26 undef = (.int .i64 q) := h.dep 4 _ 26 (by kernel_rfl) rfl rfl
        have g26 : b.tmps[26]?.getD undef = (.int .i64 q) := by rw [← Array.getD_eq_getD_getElem?]; exact f26
        have f27 : b.tmps.getD 27 undef = (.int .i64 f) := h.dep 5 _ 27 (by kernel_rfl) rfl rfl
        have g27 : b.tmps[27]?.getD undef = (.int .i64 f) := by rw [← Array.getD_eq_getD_getElem?]; exact f27
        have f30 : b.tmps.getD 30 undef = (.int .i64 R) := h.dep 8 _ 30 (by kernel_rfl) rfl rfl
        have g30 : b.tmps[30]?.getD undef = (.int .i64 R) := by rw [← Array.getD_eq_getD_getElem?]; exact f30
        refine good_call (wanted_none rfl) rfl (enters Tryz.func25 (by kernel_rfl) rfl) ?_
        rw [show (#[.tmp 22, .tmp 24, .tmp 26, .tmp 27, .tmp 30] : Array Operand).map b.eval = #[.slice A L.length cap, .int .i64 s, .int .i64 q, .int .i64 f, .int .i64 R] by simp [Act.eval, g22, g24, g26, g27, g30]]
        exact (hhp.out w' h.ext).mono fun e w1 ⟨v', P, he, hP, ho, hx⟩ => ⟨_, he, ⟨v', P, rfl, hP, ho.base h.ext.size⟩, hx⟩
      · intro b w' h hE
        have f31 : hpF (eds L) s q f R W1.heap.size (b.tmps.getD 31 undef) w' := h.dep 9 _ 31 (by kernel_rfl) rfl rfl
        obtain ⟨v', P, e31, hP, hO⟩ := f31
        have g31 : b.tmps[31]?.getD undef = .tuple #[v', .int .i64 (hpE (eds L) s q f R)] := by rw [← Array.getD_eq_getD_getElem?]; exact e31
        exact good_run (wanted_none rfl) (v := v') (by simp [execOp, Act.eval, go_sem, g31, Sem.run_bind, Sem.run_pure, Result.andThen_ok]) ⟨P, hP, hO⟩
      · intro b w' h hE
        have f31 : hpF (eds L) s q f R W1.heap.size (b.tmps.getD 31 undef) w' := h.dep 9 _ 31 (by kernel_rfl) rfl rfl
        obtain ⟨v', P, e31, hP, hO⟩ := f31
        have g31 : b.tmps[31]?.getD undef = .tuple #[v', .int .i64 (hpE (eds L) s q f R)] := by rw [← Array.getD_eq_getD_getElem?]; exact e31
        exact good_run (wanted_none rfl) (v := .int .i64 (hpE (eds L) s q f R)) (by simp [execOp, Act.eval, go_sem, g31, Sem.run_bind, Sem.run_pure, Result.andThen_ok]) rfl
    · intro b w2 hX2 hd hz he' hf
      have e22 : b.tmps.getD 22 undef = (.slice A L.length cap) := hf 0 _ 22 (by omega) rfl rfl
      have e23 : b.tmps.getD 23 undef = (.pointer (some ⟨bw, 1, none⟩)) := hf 1 _ 23 (by omega) rfl rfl
      have e24 : b.tmps.getD 24 undef = (.int .i64 s) := hf 2 _ 24 (by omega) rfl rfl
      have e25 : b.tmps.getD 25 undef = (.pointer (some ⟨bw, 2, none⟩)) := hf 3 _ 25 (by omega) rfl rfl
      have e26 : b.tmps.getD 26 undef = (.int .i64 q) := hf 4 _ 26 (by omega) rfl rfl
      have e27 : b.tmps.getD 27 undef = (.int .i64 f) := hf 5 _ 27 (by omega) rfl rfl
      have e28 : b.tmps.getD 28 undef = (.slice A L.length cap) := hf 6 _ 28 (by omega) rfl rfl
      have e29 : b.tmps.getD 29 undef = (.int .i64 t) := hf 7 _ 29 (by omega) rfl rfl
      have e30 : b.tmps.getD 30 undef = (.int .i64 R) := hf 8 _ 30 (by omega) rfl rfl
      have f31 : hpF (eds L) s q f R W1.heap.size (b.tmps.getD 31 undef) w2 := hf 9 _ 31 (by omega) rfl rfl
      have f32 : hqF (eds L) s q f R W1.heap.size (b.tmps.getD 32 undef) w2 := hf 10 _ 32 (by omega) rfl rfl
      have f33 : eqF (.int .i64 (hpE (eds L) s q f R)) (b.tmps.getD 33 undef) w2 := hf 11 _ 33 (by omega) rfl rfl
      have e := frame_puts hd hz he'
      obtain ⟨X, hXx⟩ : ∃ X : Nat → Value, ∀ d, b.tmps.getD d undef = X d := ⟨_, fun _ => rfl⟩
      rw [hXx] at e22 e23 e24 e25 e26 e27 e28 e29 e30 f31 f32 f33
      obtain ⟨v31, P31, q31, -, -⟩ := f31
      obtain ⟨P32, hP32, hO32⟩ := f32
      obtain ⟨A32, c32, q32⟩ := hO32.form
      rw [q32] at hO32
      have q33 := f33
      unfold eqF at q33
      rw [show dstsOf _ = [22, 23, 24, 25, 26, 27, 28, 29, 30, 31, 32, 33] from rfl] at e
      simp only [List.foldl_cons, List.foldl_nil, hXx, Act.put, List.setIfInBounds_toArray, List.set_cons_succ, List.set_cons_zero] at e
      rw [e22, e23, e24, e25, e26, e27, e28, e29, e30, q31, q32, q33] at e
      clear hf he' hz hd hXx e22 e23 e24 e25 e26 e27 e28 e29 e30 q31 q32 q33
      subst e
      have hzw := hX2.size
      simp only [List.drop_succ_cons, List.drop_zero]
      have hX9 := hide hX2
      have hP9 := hide hP32
      have hO9 := hide hO32
      clear hX2 hP32 hO32
      go_wp2_with fail
      go_returns
      exact ⟨_, P32, rfl, hP9.out, hO9.out.base hzW, hXW.out.trans hX9.out⟩
  · rw [if_neg (by decide), if_pos rfl] at hVe hUe
    rw [← hVe, ← hUe] at hcp
    replace hE := hide hE
    replace hVe := hide hVe
    replace hUe := hide hUe
    clear a1 a2 a3 a4 a5
    go_enter Tryz.func16, Tryz.ntmps16
    go_wp2_with (first | (go_at_call 32; (with_reducible refine seq_gw (hw.out _ ((Ext.refl w).alloc _)) ?_); intro g1) | (go_at_call 41; refine (hcp.out _ (((Ext.refl w).alloc _).trans g1.grown)).mono ?_; rintro ee w5 ⟨v5, P, rfl, hP, ho5, hx5⟩; have hP5 := hide hP; have hX5 := hide ((((Ext.refl w).alloc _).trans g1.grown).trans hx5); have ho6 := hide (ho5.base (((Ext.refl w).alloc (.cells #[.int .i64 3, .int .i64 s, .int .i64 q] 24)).trans g1.grown).size); obtain ⟨A5, c5, q5⟩ := ho5.form; subst q5; clear hP ho5 hx5))
    go_returns
    exact ⟨_, P, rfl, hP5.out, ho6.out, hX5.out⟩
theorem wn0_a : wrE 2 10 5 hpE0 12 = 0 := by decide +kernel
theorem wn0_b : wcV 2 10 5 hpE0 12 = 5 := by decide +kernel
theorem wn0_c : wpE 2 10 5 hpE0 0 2 = 0 := by decide +kernel
theorem wn0_d : wpL 2 10 5 hpE0 0 2 = [((0, 10), [(rOne, 1)])] := by kernel_rfl
theorem wn0_e : wmay 0 0 0 = false := by decide +kernel
theorem pts1 {P : List Vp} {a : Pt} (h : pts P = [a]) : ∃ x C, P = [(x, a.1, C)] ∧ cps C = a.2 := by
  match P, h with
  | [(x, s, C)], h =>
    simp only [pts, List.map_cons, List.map_nil, List.cons.injEq] at h
    exact ⟨x, C, by rw [← h.1], by rw [← h.1]⟩
set_option maxHeartbeats 8000000 in
set_option maxRecDepth 100000 in
theorem wLive_c (w : World) : Calls Tryz.prog 11 #[] w fun e w' => e = .returned (.bool true) ∧ Ext w w' := by
  obtain ⟨W0, hW0⟩ : ∃ W0, W0 = w.alloc (.cells #[.int .i64 2, .int .i64 10, .int .i64 5] 24) := ⟨_, rfl⟩
  obtain ⟨W2, hW2⟩ : ∃ W2, W2 = (W0.alloc oOne).alloc oOne := ⟨_, rfl⟩
  have hz0 : W0.heap.size = w.heap.size + 1 := by rw [hW0]; simp
  have h1 : Rw W2 [] (.slice (some ⟨W0.heap.size, 0, none⟩) 1 1) rOne := by rw [hW2]; exact Sl.ext (rwOne W0) ((Ext.refl _).alloc _)
  have h2 : Rw W2 [] (.slice (some ⟨W0.heap.size + 1, 0, none⟩) 1 1) rOne := by rw [hW2]; have := rwOne (W0.alloc oOne); rwa [World.size_alloc] at this
  have hz2 : W2.heap.size = W0.heap.size + 1 + 1 := by rw [hW2]; simp
  obtain ⟨L, hL⟩ : ∃ L : List Ve, L = [(.slice (some ⟨W0.heap.size, 0, none⟩) 1 1, rOne, (3, 1)), (.slice (some ⟨W0.heap.size + 1, 0, none⟩) 1 1, rOne, (7, -1))] := ⟨_, rfl⟩
  have hE : eds L = hpE0 := by rw [hL]; rfl
  have hEw : Ew (W2.alloc (oEdges W0)) [] (.slice (some ⟨W2.heap.size, 0, none⟩) 2 2) L := by
    refine ⟨?_, ?_⟩
    · have := Sl.own (S := []) (World.ownsRow_lit (base := W2.heap.size) (e := 58) (size := 3) W2 #[.slice (some ⟨W0.heap.size, 0, none⟩) 1 1, .int .i64 3, .int .i64 1, .slice (some ⟨W0.heap.size + 1, 0, none⟩) 1 1, .int .i64 7, .int .i64 (-1)] 2 (Nat.le_refl _) (by decide) rfl) (by simp)
      rw [hL]
      exact this
    · intro p hp
      rw [hL] at hp
      simp only [List.mem_cons, List.not_mem_nil, or_false] at hp
      rcases hp with rfl | rfl
      · exact Sl.alloc h1 _
      · exact Sl.alloc h2 _
  have hb : Ob (W2.alloc (oEdges W0)) w.heap.size 24 (wL 2 10 5) := by
    rw [hW2, hW0]
    exact (Ob.new w 24 (wL 2 10 5)).ext ((((Ext.refl _).alloc _).alloc _).alloc _)
  have hX3 : Ext w (W2.alloc (oEdges W0)) := by rw [hW2, hW0]; exact ((((Ext.refl w).alloc _).alloc _).alloc _).alloc _
  have hc := hide (fun w' (hX : Ext _ w') => wclock_c 2 10 5 L 12 _ w' (hEw.ext hX))
  have hp := hide (fun w' (hX : Ext _ w') => wparts_c 2 10 5 L 0 2 _ w' (hEw.ext hX))
  have hk := hide (fun w' => wcheck_c 0 0 0 w')
  rw [hE, wn0_a, wn0_b] at hc
  rw [hE, wn0_c, wn0_d] at hp
  rw [wn0_e, if_neg (by decide)] at hk
  rw [hz2, hz0] at hc hp
  have hb' := hide hb
  have hX3' := hide hX3
  rw [hW2] at hc hp hb' hX3'
  have e0 : oEdges W0 = .cells #[.slice (some ⟨w.heap.size + 1, 0, none⟩) 1 1, .int .i64 3, .int .i64 1, .slice (some ⟨w.heap.size + 1 + 1, 0, none⟩) 1 1, .int .i64 7, .int .i64 (-1)] 58 := by unfold oEdges; rw [hz0]
  rw [e0] at hc hp hb' hX3'
  clear hEw h1 h2 hL hE hX3 hb hz2 e0 hz0 hW2
  subst hW0
  have c0 := hb'.out.cell 0 rfl
  have c1 := hb'.out.cell 1 rfl
  have c2 := hb'.out.cell 2 rfl
  have hl := hb'.out.lt
  go_enter Tryz.func11, Tryz.ntmps11
  go_upto_region 3 with fail
  generalize ((((w.alloc (.cells #[.int .i64 2, .int .i64 10, .int .i64 5] 24)).alloc oOne).alloc oOne).alloc (.cells #[.slice (some ⟨w.heap.size + 1, 0, none⟩) 1 1, .int .i64 3, .int .i64 1, .slice (some ⟨w.heap.size + 1 + 1, 0, none⟩) 1 1, .int .i64 7, .int .i64 (-1)] 58)) = W5 at *
  have i5 : In w.heap.size W5 := ⟨hl⟩
  go_wp2_with (first
    | (go_at_call 12; (with_reducible refine seq_gw (hc.out _ (Ext.refl _)) ?_); intro g1; (have b1 := hb'.out.ext g1.grown); have y0 := b1.cell 0 rfl; have y1 := b1.cell 1 rfl; have y2 := b1.cell 2 rfl; clear b1)
    | (go_at_call 16; refine (hp.out _ g1.grown).mono ?_; rintro ee w5 ⟨v5, P, rfl, hP, ho5, hx5⟩; obtain ⟨x, C, rfl, hC⟩ := pts1 hP; have ho51 := ho5.1; obtain ⟨g5, c5, q5, -, l5⟩ := own_block2 ho51 (by simp); subst q5; (have z0 : w5.cell? ⟨g5, 0, none⟩ = some (.int .i64 0) := World.ownsRow.cellAt ho51 0 (by simp)); (have z1 : w5.cell? ⟨g5, 1, none⟩ = some (.int .i64 10) := World.ownsRow.cellAt ho51 1 (by simp)); have i6 : In g5 w5 := ⟨l5⟩; have hx6 := hide (hX3'.out.trans (g1.grown.trans hx5)); clear ho51 ho5 hP hC hx5)
    | (go_at_call 14; (with_reducible refine seq_gw (hk.out _) ?_); intro g2))
  go_returns
  exact ⟨by first | rfl | simp, hx6.out.trans g2.grown⟩
end Go.Proofs.YtljkneajdndgjaaGreat
set_option linter.unusedVariables false
set_option linter.unusedSimpArgs false
namespace Go.Proofs.YtljkneajdndgjaaGreat
open Go.RowKit
attribute [local go_sem] GW.cell GW.frozen In.eq_true In.le_true In.ne In.ne' In.ne_add In.ne_add' In.lt_add Upto.le_true Upto.le_add Upto.lt_add
theorem cps_at {L M : List Vc} (h : cps L = cps M) {k : Nat} {c d : Vc} (hc : L[k]? = some c) (hd : M[k]? = some d) : c.2 = d.2 := by
  have h1 : (cps L)[k]? = (cps M)[k]? := by rw [h]
  rw [List.getElem?_map, List.getElem?_map, hc, hd] at h1
  simpa using h1
set_option maxHeartbeats 8000000 in
set_option maxRecDepth 100000 in
theorem refSameCopies_c (L M : List Vc) (hLM : cps L = cps M) (v u : Value) (w : World) (hL : Cw w [] v L) (hM : Cw w [] u M) : Calls Tryz.prog 44 #[v, u] w fun e w' => e = .returned (.bool true) ∧ Ext w w' := by
  have hlen : M.length = L.length := by have := congrArg List.length hLM; simpa using this.symm
  have hL' := hide hL
  have hM' := hide hM
  obtain ⟨A, cap, rfl, hlc, hlm, -⟩ := cw_form hL
  obtain ⟨A2, cap2, rfl, -, -, -⟩ := cw_form hM
  unfold maxLen at hlm
  rw [hlen] at hM' ⊢
  have hMh := hide hlen
  clear hL hM hlen
  have hnn : ((L.length : Int) != (L.length : Int)) = false := by simp
  go_enter Tryz.func44, Tryz.ntmps44
  go_wp2_with fail
  go_loopg [5] L.length (fun gh i wr => ∃ (k : Nat), i = .int .i64 k ∧ k + gh = L.length ∧ Hid (Ext w wr))
  case atStart => exact ⟨0, by go_num, by omega, Ext.refl _⟩
  case round =>
    obtain ⟨k, rfl, hk, hX⟩ := hrel
    by_cases hlt : k < L.length
    · obtain ⟨⟨x, q, n⟩, hd⟩ : ∃ p, L[k]? = some p := ⟨_, List.getElem?_eq_getElem hlt⟩
      obtain ⟨⟨y, q2, n2⟩, hd2⟩ : ∃ p, M[k]? = some p := ⟨_, List.getElem?_eq_getElem (by rw [hMh.out]; exact hlt)⟩
      have e := cps_at hLM hd hd2
      simp only [Prod.mk.injEq] at e
      obtain ⟨rfl, rfl⟩ := e
      obtain ⟨A', cap', e', -, -, hat⟩ := cw_form (hL'.out.ext hX.out)
      simp only [Value.slice.injEq] at e'
      obtain ⟨rfl, -, rfl⟩ := e'
      obtain ⟨b, o, rfl, -, hbl, c0, c1⟩ := hat k _ hd
      obtain ⟨A', cap', e', -, -, hat2⟩ := cw_form (hM'.out.ext hX.out)
      simp only [Value.slice.injEq] at e'
      obtain ⟨rfl, -, rfl⟩ := e'
      obtain ⟨b2, o2, rfl, -, hbl2, d0, d1⟩ := hat2 k _ hd2
      have hr := (hL'.out.ext hX.out).2 _ (List.mem_of_getElem? hd)
      have hr2 := (hM'.out.ext hX.out).2 _ (List.mem_of_getElem? hd2)
      simp only at hr hr2 c0 c1 d0 d1
      obtain ⟨RA, rcap, rfl⟩ := rw_val hr
      obtain ⟨RB, rcap2, rfl⟩ := rw_val hr2
      have hs := hide (fun (g : GW wr) => refRowSame_c (Sl.ext hr g.grown) (Sl.ext hr2 g.grown))
      rw [decide_eq_true rfl] at hs
      haveI : In b wr := ⟨hbl⟩
      haveI : In b2 wr := ⟨hbl2⟩
      have hn2 : (n != n) = false := by simp
      clear hat hat2 hd hd2 hr hr2 hLM
      go_wp2_with fail
      refine wp_region_gw (by kernel_rfl) (by kernel_rfl) ?_
      repeat (go_big_quiet_step ((go_at_call 49; with_reducible exact quiet_gw (hs.out _))))
      refine wpQuiet_nil ?_
      intro g8
      go_wp2_with fail
      go_roundg (L.length - (k + 1))
      case measure => omega
      case rel => exact ⟨k + 1, by go_num, by omega, hX.out.trans g8.grown⟩
    · go_wp2_with fail
      go_returns
      exact ⟨rfl, hX.out⟩
theorem pts_at {L M : List Vp} (h : pts L = pts M) {k : Nat} {c d : Vp} (hc : L[k]? = some c) (hd : M[k]? = some d) : c.2.1 = d.2.1 ∧ cps c.2.2 = cps d.2.2 := by
  have h1 : (pts L)[k]? = (pts M)[k]? := by rw [h]
  rw [List.getElem?_map, List.getElem?_map, hc, hd] at h1
  simpa using h1
theorem cw_val {w : World} {S : List Nat} {v : Value} {l : List Vc} (h : Cw w S v l) : ∃ A cap, v = .slice A l.length cap := by obtain ⟨A, cap, e, _⟩ := h.1; exact ⟨A, cap, e⟩
set_option maxHeartbeats 8000000 in
set_option maxRecDepth 100000 in
theorem refSameParts_c (L M : List Vp) (hLM : pts L = pts M) (v u : Value) (w : World) (hL : Pw w [] v L) (hM : Pw w [] u M) : Calls Tryz.prog 18 #[v, u] w fun e w' => e = .returned (.bool true) ∧ Ext w w' := by
  have hlen : M.length = L.length := by have := congrArg List.length hLM; simpa using this.symm
  have hL' := hide hL
  have hM' := hide hM
  obtain ⟨A, cap, rfl, hlc, hlm, -⟩ := pw_form hL
  obtain ⟨A2, cap2, rfl, -, -, -⟩ := pw_form hM
  unfold maxLen at hlm
  rw [hlen] at hM' ⊢
  have hMh := hide hlen
  clear hL hM hlen
  have hnn : ((L.length : Int) != (L.length : Int)) = false := by simp
  go_enter Tryz.func18, Tryz.ntmps18
  go_wp2_with fail
  go_loopg [5] L.length (fun gh i wr => ∃ (k : Nat), i = .int .i64 k ∧ k + gh = L.length ∧ Hid (Ext w wr))
  case atStart => exact ⟨0, by go_num, by omega, Ext.refl _⟩
  case round =>
    obtain ⟨k, rfl, hk, hX⟩ := hrel
    by_cases hlt : k < L.length
    · obtain ⟨⟨x, ⟨s, t⟩, C⟩, hd⟩ : ∃ p, L[k]? = some p := ⟨_, List.getElem?_eq_getElem hlt⟩
      obtain ⟨⟨y, ⟨s2, t2⟩, C2⟩, hd2⟩ : ∃ p, M[k]? = some p := ⟨_, List.getElem?_eq_getElem (by rw [hMh.out]; exact hlt)⟩
      have e := pts_at hLM hd hd2
      simp only [Prod.mk.injEq] at e
      obtain ⟨⟨rfl, rfl⟩, hcc⟩ := e
      obtain ⟨A', cap', e', -, -, hat⟩ := pw_form (hL'.out.ext hX.out)
      simp only [Value.slice.injEq] at e'
      obtain ⟨rfl, -, rfl⟩ := e'
      obtain ⟨b, o, rfl, -, hbl, c0, c1, c2⟩ := hat k _ hd
      obtain ⟨A', cap', e', -, -, hat2⟩ := pw_form (hM'.out.ext hX.out)
      simp only [Value.slice.injEq] at e'
      obtain ⟨rfl, -, rfl⟩ := e'
      obtain ⟨b2, o2, rfl, -, hbl2, d0, d1, d2⟩ := hat2 k _ hd2
      have hr := (hL'.out.ext hX.out).2 _ (List.mem_of_getElem? hd)
      have hr2 := (hM'.out.ext hX.out).2 _ (List.mem_of_getElem? hd2)
      simp only at hr hr2 c0 c1 c2 d0 d1 d2
      obtain ⟨RA, rcap, rfl⟩ := cw_val hr
      obtain ⟨RB, rcap2, rfl⟩ := cw_val hr2
      have hs := hide (fun (g : GW wr) => refSameCopies_c C C2 hcc _ _ g.val (hr.ext g.grown) (hr2.ext g.grown))
      haveI : In b wr := ⟨hbl⟩
      haveI : In b2 wr := ⟨hbl2⟩
      have hn2 : (s != s) = false := by simp
      have hn3 : (t != t) = false := by simp
      clear hat hat2 hd hd2 hr hr2 hLM hcc
      go_wp2_with fail
      refine wp_region_gw (by kernel_rfl) (by kernel_rfl) ?_
      repeat (go_big_quiet_step ((go_at_call 44; with_reducible exact quiet_gw (hs.out _))))
      refine wpQuiet_nil ?_
      intro g8
      go_wp2_with fail
      go_roundg (L.length - (k + 1))
      case measure => omega
      case rel => exact ⟨k + 1, by go_num, by omega, hX.out.trans g8.grown⟩
    · go_wp2_with fail
      go_returns
      exact ⟨rfl, hX.out⟩
end Go.Proofs.YtljkneajdndgjaaGreat
set_option linter.unusedVariables false
set_option linter.unusedSimpArgs false
namespace Go.Proofs.YtljkneajdndgjaaGreat
open Go.RowKit
attribute [local go_sem] GW.cell GW.frozen In.eq_true In.le_true In.ne In.ne' In.ne_add In.ne_add' In.lt_add Upto.le_true Upto.le_add Upto.lt_add
theorem hpE_ok {l : List Ed} {s hp f r : Int} (h : hpE l s hp f r = 0) : (hlen s = true ∧ hlen hp = true ∧ mayE l = true) ∧ (htick f = true ∧ htick r = true) ∧ (hkeys s hp f r (grp l)).length ≤ 1024 := by
  unfold hpE at h
  split at h
  case isFalse => exact absurd h (by decide)
  rename_i h1
  split at h
  case isFalse => exact absurd h (by decide)
  split at h
  case isFalse => exact absurd h (by decide)
  rename_i h3
  refine ⟨h1, h3, ?_⟩
  unfold hcE at h
  split at h
  · exact absurd h (by decide)
  · omega
end Go.Proofs.YtljkneajdndgjaaGreat
set_option linter.unusedVariables false
set_option linter.unusedSimpArgs false
namespace Go.Proofs.YtljkneajdndgjaaGreat
open Go.RowKit
attribute [local go_sem] GW.cell GW.frozen In.eq_true In.le_true In.ne In.ne' In.ne_add In.ne_add' In.lt_add Upto.le_true Upto.le_add Upto.lt_add
/-- Parts ahead of a tick, and as far as it. -/
def cutV (P : List Vp) (T : Int) : List Vp := (P.filter fun p => decide (p.2.1.1 < T)).map fun p => (p.1, (p.2.1.1, if T < p.2.1.2 then T else p.2.1.2), p.2.2)
theorem cutV_append (P Q : List Vp) (T : Int) : cutV (P ++ Q) T = cutV P T ++ cutV Q T := by unfold cutV; rw [List.filter_append, List.map_append]
theorem cutV_pts (P : List Vp) (T : Int) : pts (cutV P T) = wahP (pts P) T := by
  unfold cutV wahP
  show List.map (fun p : Vp => (p.2.1, cps p.2.2)) (List.map _ _) = List.map _ (List.filter _ (List.map (fun p : Vp => (p.2.1, cps p.2.2)) P))
  rw [List.map_map, List.filter_map, List.map_map]
  rfl
set_option maxHeartbeats 8000000 in
set_option maxRecDepth 100000 in
theorem refAhead27_c (P : List Vp) (T : Int) (v : Value) (w : World) (h : Pw w [] v P) (hl : P.length ≤ 4096) : Calls Tryz.prog 21 #[v, .int .i64 T] w fun e w' => ∃ v', e = .returned v' ∧ Pw w' [] v' (cutV P T) ∧ Ext w w' := by
  have h' := hide h
  obtain ⟨A, cap, rfl, -, -, -⟩ := pw_form h
  clear h
  have hz0 := hide (World.ownsRow_lit (base := w.heap.size) (e := 52) (size := 3) w #[] 0 (Nat.le_refl _) (by decide) rfl)
  go_enter Tryz.func21, Tryz.ntmps21
  go_wp2_with fail
  go_loopg [5, 6] P.length (fun gh u i wr => ∃ (k : Nat) (Q : List Vp), i = .int .i64 k ∧ k + gh = P.length ∧ Hid (wr.ownsRow w.heap.size 52 3 u Q.length (pt Q)) ∧ Hid (Q = cutV (P.take k) T) ∧ Q.length ≤ k ∧ Hid (Ext w wr))
  case atStart => exact ⟨0, [], by go_num, by omega, hz0, rfl, by simp, (Ext.refl w).alloc _⟩
  case round =>
    clear hz0
    obtain ⟨k, Q, rfl, hk, hO, hQ, hQl, hX⟩ := hrel
    obtain ⟨QA, qcap, rfl⟩ := own_form hO.out
    by_cases hlt : k < P.length
    · obtain ⟨⟨x, ⟨s, z⟩, D⟩, hd⟩ : ∃ p, P[k]? = some p := ⟨_, List.getElem?_eq_getElem hlt⟩
      have hnx := hide (show P.take (k + 1) = P.take k ++ [(x, (s, z), D)] by rw [List.take_add_one, hd]; rfl)
      obtain ⟨A', cap', e', -, -, hat⟩ := pw_form (h'.out.ext hX.out)
      simp only [Value.slice.injEq] at e'
      obtain ⟨rfl, -, rfl⟩ := e'
      obtain ⟨b, o, rfl, -, hbl, d0, d1, d2⟩ := hat k _ hd
      have hD := (h'.out.ext hX.out).2 _ (List.mem_of_getElem? hd)
      simp only at d0 d1 d2 hD
      obtain ⟨DA, dcap, rfl⟩ := cw_val hD
      haveI : In b wr := ⟨hbl⟩
      have hobQ := ob_ge hO.out
      have hzw := hX.out.size
      clear hat hd hD
      go_upto_region 6 with fail
      have hb5 : Ob (wr.alloc (.cells #[.int .i64 s, .int .i64 z, .slice DA D.length dcap] 52)) wr.heap.size 52 [.int .i64 s, .int .i64 z, .slice DA D.length dcap] := Ob.new wr _ [_, _, _]
      have hX5 : Ext wr (wr.alloc (.cells #[.int .i64 s, .int .i64 z, .slice DA D.length dcap] 52)) := (Ext.refl wr).alloc _
      generalize wr.alloc (.cells #[.int .i64 s, .int .i64 z, .slice DA D.length dcap] 52) = W5 at *
      obtain ⟨pb, hpb⟩ : ∃ pb, pb = wr.heap.size := ⟨_, rfl⟩
      rw [← hpb] at hb5 ⊢
      have hpge : wr.heap.size ≤ pb := by omega
      clear hpb d0 d1 d2
      have hl5 := hb5.lt
      haveI : In pb W5 := ⟨hl5⟩
      have n0 := hb5.cell 0 rfl
      have n1 := hb5.cell 1 rfl
      have n2 := hb5.cell 2 rfl
      have f1 := hb5.free 1
      by_cases hzt : T < z
      · go_upto_region 8 with fail
        have hb6 := hide (hb5.set 1 (.int .i64 T))
        have hX6 := hide (hX5.setCell (p := ⟨pb, 1, none⟩) hpge (.int .i64 T))
        clear n0 n1 n2 f1 hb5 hX5
        generalize W5.setCell ⟨pb, 1, none⟩ (.int .i64 T) = W6 at *
        have hl6 := hb6.out.lt
        haveI : In pb W6 := ⟨hl6⟩
        have hO6 := hide (own_ext hO.out hX6.out)
        have m0 := hb6.out.cell 0 rfl
        have m1 := hb6.out.cell 1 rfl
        have m2 := hb6.out.cell 2 rfl
        by_cases h1 : s < T
        · have hsrc := hide (src_sl Tryz.underlying34 (sl_lit W6 52 3 [.int .i64 s, .int .i64 T, .slice DA D.length dcap] rfl) (by intro u hu; simp only [List.mem_cons, List.not_mem_nil, or_false] at hu; rcases hu with rfl | rfl | rfl <;> rfl) (by omega))
          have hbs := hide (own_ext hO6.out ((Ext.refl W6).alloc (.cells #[.int .i64 s, .int .i64 T, .slice DA D.length dcap] 52)))
          have hbz := hide (Nat.le_trans (Nat.le_trans hzw hX6.out.size) ((Ext.refl W6).alloc (.cells #[.int .i64 s, .int .i64 T, .slice DA D.length dcap] 52)).size)
          go_wp2_with (at_builtin; (refine wpl_app tPa rfl (.tmp 32) (.tmp 34) rfl rfl hbs.out rfl hsrc.out (by unfold maxLen; omega) (by omega) hbz.out ?_; intro v8 w8 ho8 hg8 hob8; have ho9 := hide ho8; have hg9 := hide hg8; obtain ⟨A8, c8, q8⟩ := own_form ho8; subst q8; clear ho8 hg8 hob8))
          have hF9 : Fr (ob (.slice QA Q.length qcap)) W6 w8 := ((Fr.refl _ _).alloc _).grown hg9.out (fun j hj => .inl (Option.mem_toList.2 hj))
          go_roundg (P.length - (k + 1))
          case measure => omega
          case rel =>
            refine ⟨k + 1, Q ++ [(Value.slice DA D.length dcap, (s, T), D)], by go_num, by omega, ?_, ?_, by simp; omega, ext_fr (hX.out.trans hX6.out) hF9 (fun y hy => (hobQ y hy).1)⟩
            · have := ho9.out
              show World.ownsRow _ _ _ _ _ _ _
              rw [List.length_append, pt_append]
              simpa [pt, pt1] using this
            · show _ = _
              rw [hnx.out, cutV_append, ← hQ.out]
              first | (simp [cutV, h1, hzt]; done) | (simp [cutV, h1, hzt]; intro hh; omega)
        · go_wp2_with fail
          go_roundg (P.length - (k + 1))
          case measure => omega
          case rel => exact ⟨k + 1, Q, by go_num, by omega, hO6.out, (by show _ = _; rw [hnx.out, cutV_append, ← hQ.out]; simp [cutV, h1]), by omega, hX.out.trans hX6.out⟩
      · go_upto_region 8 with fail
        have hb6 := hide hb5
        have hX6 := hide hX5
        clear n0 n1 n2 f1 hb5 hX5
        generalize W5 = W6 at *
        have hO6 := hide (own_ext hO.out hX6.out)
        have m0 := hb6.out.cell 0 rfl
        have m1 := hb6.out.cell 1 rfl
        have m2 := hb6.out.cell 2 rfl
        by_cases h1 : s < T
        · have hsrc := hide (src_sl Tryz.underlying34 (sl_lit W6 52 3 [.int .i64 s, .int .i64 z, .slice DA D.length dcap] rfl) (by intro u hu; simp only [List.mem_cons, List.not_mem_nil, or_false] at hu; rcases hu with rfl | rfl | rfl <;> rfl) (by omega))
          have hbs := hide (own_ext hO6.out ((Ext.refl W6).alloc (.cells #[.int .i64 s, .int .i64 z, .slice DA D.length dcap] 52)))
          have hbz := hide (Nat.le_trans (Nat.le_trans hzw hX6.out.size) ((Ext.refl W6).alloc (.cells #[.int .i64 s, .int .i64 z, .slice DA D.length dcap] 52)).size)
          go_wp2_with (at_builtin; (refine wpl_app tPa rfl (.tmp 32) (.tmp 34) rfl rfl hbs.out rfl hsrc.out (by unfold maxLen; omega) (by omega) hbz.out ?_; intro v8 w8 ho8 hg8 hob8; have ho9 := hide ho8; have hg9 := hide hg8; obtain ⟨A8, c8, q8⟩ := own_form ho8; subst q8; clear ho8 hg8 hob8))
          have hF9 : Fr (ob (.slice QA Q.length qcap)) W6 w8 := ((Fr.refl _ _).alloc _).grown hg9.out (fun j hj => .inl (Option.mem_toList.2 hj))
          go_roundg (P.length - (k + 1))
          case measure => omega
          case rel =>
            refine ⟨k + 1, Q ++ [(Value.slice DA D.length dcap, (s, z), D)], by go_num, by omega, ?_, ?_, by simp; omega, ext_fr (hX.out.trans hX6.out) hF9 (fun y hy => (hobQ y hy).1)⟩
            · have := ho9.out
              show World.ownsRow _ _ _ _ _ _ _
              rw [List.length_append, pt_append]
              simpa [pt, pt1] using this
            · show _ = _
              rw [hnx.out, cutV_append, ← hQ.out]
              first | (simp [cutV, h1, hzt]; done) | (simp [cutV, h1, hzt]; intro hh; omega)
        · go_wp2_with fail
          go_roundg (P.length - (k + 1))
          case measure => omega
          case rel => exact ⟨k + 1, Q, by go_num, by omega, hO6.out, (by show _ = _; rw [hnx.out, cutV_append, ← hQ.out]; simp [cutV, h1]), by omega, hX.out.trans hX6.out⟩
    · have hQf : Hid (Q = cutV P T) := by show _ = _; rw [hQ.out, List.take_of_length_le (by omega)]
      go_wp2_with fail
      go_returns
      refine ⟨_, rfl, ?_, hX.out⟩
      rw [← hQf.out]
      refine ⟨Sl.own hO.out (by simp), fun p hp => ?_⟩
      rw [hQf.out] at hp
      obtain ⟨q, hq, rfl⟩ := List.mem_map.1 hp
      exact (h'.out.ext hX.out).2 q (List.mem_filter.1 hq).1
end Go.Proofs.YtljkneajdndgjaaGreat
