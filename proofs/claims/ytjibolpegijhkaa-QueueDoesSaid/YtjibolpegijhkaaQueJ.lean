/-
  A helper of ours: no claim of its own. Layer 15 (queue): the document's Pop.
-/
import Derived.Test.YtjibolpegijhkaaQueI
set_option linter.unusedVariables false
set_option linter.unusedSimpArgs false
namespace Go.Proofs.Ytjibolpegijhkaa
open Go.RowKit
attribute [local go_sem] GW.cell GW.frozen In.eq_true In.le_true In.ne In.ne' In.ne_add In.ne_add' In.lt_add Upto.le_true Upto.le_add Upto.lt_add
attribute [-go_sem] sliced
attribute [local go_sem] sliced_eq
theorem ps_takeE (l : List Jp) : ∀ n, (ps l).take (n * 2) = ps (l.take n) := by
  induction l with
  | nil => intro n; simp [ps]
  | cons p r ih =>
    intro n
    rcases n with _ | n
    · simp [ps]
    · rw [show (n + 1) * 2 = n * 2 + 1 + 1 by omega]
      simpa [ps] using ih n
/-- The document's queue, its slice told. -/
def Rv (w : World) (B r : Nat) (v : Value) (L : List Jp) : Prop := B ≤ r ∧ Ob w r 32 [v] ∧ OwnJ w B v L
set_option maxHeartbeats 8000000 in
set_option maxRecDepth 100000 in
theorem rpop2_c (B r : Nat) (L : List Jp) (hL : L.length ≤ 1000000) (h0 : ¬ L = []) (w : World) (hB : B ≤ w.heap.size) (h : Rs w B r L) : Calls Try.prog 11 #[.pointer (some ⟨r, 0, none⟩)] w fun e w' => e = .returned (.tuple #[jm (hdL L), .bool true]) ∧ (∃ v', Rv w' B r v' (popL L) ∧ ∀ x, v'.ownBlock = some x → w.heap.size ≤ x) ∧ Ft B [32] w w' := by
  have hK := hide (fun w' (hX : Ext w w') => rpeek_c B r L hL w' (h.ext hX))
  have hrl := h.lt
  haveI : In r w := ⟨hrl⟩
  have hf := hide (fun w' (hX : Ext w w') => rfirst_c B r L hL w' (h.ext hX))
  obtain ⟨hBr, v, hO, hJ⟩ := h
  obtain ⟨A, cap, rfl⟩ := own_form hJ
  have hF := fstF_spec L h0
  have hal := fst_lt hF
  obtain ⟨-, hpop⟩ := hdL_get hF
  have r0 := hO.cell 0 rfl
  have rf := hO.free 0
  unfold fstI at hf
  rw [if_neg h0] at hf
  rw [decide_eq_true (show 0 < L.length by omega)] at hK
  obtain ⟨⟨xa, xn⟩, hx⟩ : ∃ x, x = hdL L := ⟨_, rfl⟩
  rw [← hx] at hK ⊢
  generalize fstF L = a at *
  rw [List.eraseIdx_eq_take_drop_succ] at hpop
  have hz := own_jw (S := []) hJ (by simp)
  obtain ⟨A', cap', eA, hlc, hlm, -⟩ := id hz
  simp only [Value.slice.injEq, true_and] at eA
  obtain ⟨rfl, rfl⟩ := eA
  have hlm' := hlm
  unfold maxLen at hlm'
  have hS1 : Hid (∀ w', Ext w w' → Sl w' [] 2 (.slice (cutA A 0 cap 2) a cap) a (ps (L.take a))) := fun w' hX => by
    have := (Sl.ext hz hX).cut 0 a cap (Nat.zero_le _) (by omega) (by omega) (Nat.le_refl _)
    rw [sliced_eq, Nat.zero_mul, List.drop_zero, ps_takeE, Nat.sub_zero, Nat.sub_zero] at this
    exact this
  have hS2 : Hid (∀ w', Ext w w' → Sl w' [] 2 (.slice (cutA A (a + 1) cap 2) (L.length - (a + 1)) (cap - (a + 1))) (L.length - (a + 1)) (ps (L.drop (a + 1)))) := fun w' hX => by
    have := (Sl.ext hz hX).cut (a + 1) L.length cap (by omega) (Nat.le_refl _) hlc (Nat.le_refl _)
    rw [sliced_eq, List.take_of_length_le (by rw [ps_length]; omega), ps_drop] at this
    exact this
  have htl : (L.take a).length = a := by rw [List.length_take]; omega
  have hdl : (L.drop (a + 1)).length = L.length - (a + 1) := by rw [List.length_drop]
  have haI : (a : Int) < L.length := by omega
  have ha1 : (a : Int) + 1 ≤ L.length := by omega
  have hab : a ≤ L.length := by omega
  have hab1 : a + 1 ≤ L.length := by omega
  have hac : a ≤ cap := by omega
  have hac1 : a + 1 ≤ cap := by omega
  have hLI : (L.length : Int) ≤ 1000000 := by omega
  have hpop' := hide hpop
  have hOh := hide hO
  have ha9 : (a : Int) ≤ 1000000 := by omega
  have hlit := hide (fun w' : World => World.ownsRow_lit (base := w'.heap.size) (e := 27) (size := 2) w' #[] 0 (Nat.le_refl _) (by decide) rfl)
  clear hO hJ hF hpop hx h0 hz hlm
  go_enter Try.func11, Try.ntmps11
  go_wp2_with (first | (go_at_call 13; (with_reducible refine seq_gw (hK.out _ ((Ext.refl _).alloc _)) ?_); intro g) | (go_at_call 20; (with_reducible refine seq_gw (hf.out _ ((((Ext.refl _).alloc _).trans g.grown).alloc _)) ?_); intro g2; have X2 := hide (((((Ext.refl w).alloc (.cells #[.int .i64 0, .int .i64 0] 27)).trans g.grown).alloc (.cells #[.int .i64 xa, .int .i64 xn] 27)).trans g2.grown); have hs2 := X2.out.size) | (at_builtin; first | (refine wpl_app tJmp rfl (.tmp 18) (.tmp 24) rfl rfl (hlit.out _) rfl (src_sl Try.underlying30 (hS1.out _ (X2.out.alloc _)) (ps_one _) (by omega)) (by unfold maxLen; omega) (by omega) (by simp) ?_; intro v3 w3 ho3 hg3 hd3; have Y3 := hide (ext_grown ((Ext.refl g2.val).alloc _) hg3 (fun k hk => ((hlit.out g2.val).lt k hk).1)); rw [Nat.zero_add, List.nil_append] at ho3; obtain ⟨A3, c3, q3⟩ := own_form ho3; subst q3; have Or3 := hOh.out.ext (X2.out.trans Y3.out); have m0 := Or3.cell 0 rfl; have ml := Or3.lt; haveI : In r w3 := ⟨ml⟩; clear Or3; replace ho3 := hide ho3; clear hg3 hd3) | (refine wpl_app (n := a) (xs := ps (L.take a)) tJmp rfl (.tmp 27) (.tmp 34) rfl rfl ho3.out rfl (src_sl Try.underlying30 (hS2.out _ (X2.out.trans Y3.out)) (ps_one _) (by omega)) (by unfold maxLen; omega) (by omega) (by have := Y3.out.size; omega) ?_; intro v4 w4 ho4 hg4 hd4; obtain ⟨A4, c4, q4⟩ := own_form ho4; subst q4; have Y4 := ext_grown Y3.out hg4 (fun k hk => (ho3.out.lt k hk).1); have OR4 := (((Ob.new w 27 [.int .i64 0, .int .i64 0]).ext g.grown).alloc (.cells #[.int .i64 xa, .int .i64 xn] 27)).ext (g2.grown.trans Y4); have OX4 := (Ob.new g.val 27 [.int .i64 xa, .int .i64 xn]).ext (g2.grown.trans Y4); have Or4 := hOh.out.ext (X2.out.trans Y4); have z0 := OX4.cell 0 rfl; have z1 := OX4.cell 1 rfl; have p0 := Or4.cell 0 rfl; have pf := Or4.free 0; have y0 := OR4.cell 0 rfl; have y1 := OR4.cell 1 rfl; have yf0 := OR4.free 0; have yf1 := OR4.free 1; have zl := OX4.lt; have pl := Or4.lt; have yl := OR4.lt; haveI : In g.val.heap.size w4 := ⟨zl⟩; haveI : In r w4 := ⟨pl⟩; haveI : In w.heap.size w4 := ⟨yl⟩; have ho4h := hide ho4; have Y4h := hide Y4; have OR4h := hide OR4; have Or4h := hide Or4; clear ho4 hg4 hd4 Y4 OR4 OX4 Or4)))
  have hrne : w.heap.size ≠ r := by omega
  have Or5 := Or4h.out.set 0 (.slice A4 (a + (L.length - (a + 1))) c4)
  have OR6 := ((OR4h.out.far ⟨r, 0, none⟩ (.slice A4 (a + (L.length - (a + 1))) c4) hrne).set 0 (.int .i64 xa)).set 1 (.int .i64 xn)
  have c0 := OR6.cell 0 rfl
  have c1 := OR6.cell 1 rfl
  have hRs : ∃ v', Rv (((w4.setCell ⟨r, 0, none⟩ (.slice A4 (a + (L.length - (a + 1))) c4)).setCell ⟨w.heap.size, 0, none⟩ (.int .i64 xa)).setCell ⟨w.heap.size, 1, none⟩ (.int .i64 xn)) B r v' (popL L) ∧ ∀ x, v'.ownBlock = some x → w.heap.size ≤ x := by
    refine ⟨(.slice A4 (a + (L.length - (a + 1))) c4), ⟨hBr, (Or5.far ⟨w.heap.size, 0, none⟩ (.int .i64 xa) (fun e => hrne e.symm)).far ⟨w.heap.size, 1, none⟩ (.int .i64 xn) (fun e => hrne e.symm), ?_⟩, ?_⟩
    rotate_left
    · intro y hy
      have h1 := (ho4h.out.lt y hy).1
      omega
    have o1 : OwnJ w4 g2.val.heap.size (.slice A4 (a + (L.length - (a + 1))) c4) (popL L) := by
      rw [hpop'.out]
      unfold OwnJ
      rw [List.length_append, htl, hdl, ps_append]
      exact ho4h.out
    have o2 := own_base o1 (by omega : B ≤ g2.val.heap.size)
    refine own_off o2 (S := [r, w.heap.size]) ((((Fr.refl [r, w.heap.size] w4).setCell ⟨r, 0, none⟩ (.slice A4 (a + (L.length - (a + 1))) c4) (.inl (by simp))).setCell ⟨w.heap.size, 0, none⟩ (.int .i64 xa) (.inl (by simp))).setCell ⟨w.heap.size, 1, none⟩ (.int .i64 xn) (.inl (by simp))) (fun y hy m => ?_)
    have h1 := (o1.lt y hy).1
    have h2 := g2.grown.size
    rw [World.size_alloc] at h2
    have h3 := g.grown.size
    rw [World.size_alloc] at h3
    simp only [List.mem_cons, List.not_mem_nil, or_false] at m
    omega
  have hFo : Ft B [32] w (((w4.setCell ⟨r, 0, none⟩ (.slice A4 (a + (L.length - (a + 1))) c4)).setCell ⟨w.heap.size, 0, none⟩ (.int .i64 xa)).setCell ⟨w.heap.size, 1, none⟩ (.int .i64 xn)) :=
    (((Ft.of_ext (X2.out.trans Y4h.out)).set (i := 0) (u := (.slice A4 (a + (L.length - (a + 1))) c4)) hBr Or4h.out (by simp)).setNew (p := ⟨w.heap.size, 0, none⟩) (Nat.le_refl _) (.int .i64 xa)).setNew (p := ⟨w.heap.size, 1, none⟩) (Nat.le_refl _) (.int .i64 xn)
  replace hRs := hide hRs
  replace hFo := hide hFo
  refine bodyPost_ret (by simp [results, Try.results11, go_sem, c0, c1]; try rfl) rfl ?_
  exact ⟨rfl, hRs.out, hFo.out⟩
set_option maxHeartbeats 8000000 in
set_option maxRecDepth 100000 in
theorem rpop_c (B r : Nat) (L : List Jp) (hL : L.length ≤ 1000000) (w : World) (hB : B ≤ w.heap.size) (h : Rs w B r L) : Calls Try.prog 11 #[.pointer (some ⟨r, 0, none⟩)] w fun e w' => e = .returned (.tuple #[jm (hdL L), .bool (decide (0 < L.length))]) ∧ Rs w' B r (popL L) ∧ Ft B [32] w w' := by
  have hK := hide (fun w' (hX : Ext w w') => rpeek_c B r L hL w' (h.ext hX))
  have hrl := h.lt
  haveI : In r w := ⟨hrl⟩
  by_cases h0 : L = []
  · subst h0
    have e2 : hdL [] = (0, 0) := rfl
    have hR0 := hide h
    rw [e2] at hK ⊢
    have e3 : decide (0 < ([] : List Jp).length) = false := rfl
    rw [e3] at hK ⊢
    clear h e2 e3
    go_enter Try.func11, Try.ntmps11
    go_wp2_with (go_at_call 13; (with_reducible refine seq_gw (hK.out _ ((Ext.refl _).alloc _)) ?_); intro g)
    have hX := hide ((((((Ext.refl w).alloc _).trans g.grown).setCell (p := ⟨w.heap.size, 0, none⟩) (Nat.le_refl _) (.int .i64 0)).setCell (p := ⟨w.heap.size, 1, none⟩) (Nat.le_refl _) (.int .i64 0)).alloc (.cells #[.int .i64 0, .int .i64 0] 27))
    go_returns
    exact ⟨by simp [jm], hR0.out.ext hX.out, Ft.of_ext hX.out⟩
  · have hl : 0 < L.length := List.length_pos_iff.2 h0
    rw [decide_eq_true hl]
    exact (rpop2_c B r L hL h0 w hB h).mono fun e w' ⟨h1, ⟨v', ⟨h2, h3, h4⟩, _⟩, h6⟩ => ⟨h1, ⟨h2, v', h3, h4⟩, h6⟩
end Go.Proofs.Ytjibolpegijhkaa
