/-
  A helper of ours: no claim of its own. Layer 16 (align): edges parted into those ahead and the others, by the code.
-/
import Derived.Test.YtjmoifbajjemmaaGreatAlnB
set_option linter.unusedVariables false
set_option linter.unusedSimpArgs false
namespace Go.Proofs.YtjmoifbajjemmaaGreat
open Go.RowKit
attribute [local go_sem] GW.cell GW.frozen In.eq_true In.le_true In.ne In.ne' In.ne_add In.ne_add' In.lt_add Upto.le_true Upto.le_add Upto.lt_add
set_option maxHeartbeats 2000000 in
theorem alClockN_c (w : World) : Calls Tryz.prog 7 #[.pointer none] w fun e w' => e = .returned (.int .i64 0) ∧ Ext w w' := by
  go_enter Tryz.func7, Tryz.ntmps7
  go_wp2_with fail
  go_returns
  exact ⟨rfl, Ext.refl w⟩
set_option maxHeartbeats 2000000 in
theorem alHeldN_c (w : World) : Calls Tryz.prog 8 #[.pointer none] w fun e w' => e = .returned (.int .i64 0) ∧ Ext w w' := by
  go_enter Tryz.func8, Tryz.ntmps8
  go_wp2_with fail
  go_returns
  exact ⟨rfl, Ext.refl w⟩
set_option maxHeartbeats 2000000 in
theorem alRelN_c (w : World) : Calls Tryz.prog 9 #[.pointer none] w fun e w' => e = .returned (.slice none 0 0) ∧ Ext w w' := by
  go_enter Tryz.func9, Tryz.ntmps9
  go_wp2_with fail
  go_returns
  exact ⟨rfl, Ext.refl w⟩
theorem clk_snoc (X : List Xi) (p : Xi) : clkX (X ++ [p]) = min (clkX X) p.1 := by simp [clkX]
theorem held_snoc (X : List Xi) (p : Xi) : heldN (X ++ [p]) = heldN X + p.2.length := by simp [heldN]
theorem held_take (X : List Xi) : ∀ k, heldN (X.take k) ≤ heldN X := by
  induction X with
  | nil => intro k; simp
  | cons p X ih =>
    intro k
    cases k with
    | zero => simp [heldN]
    | succ k => have := ih k; simp only [heldN, List.take_succ_cons, List.map_cons, List.sum_cons] at *; omega
theorem absX_take (st : List Hi) (k : Nat) : (absX st).take k = absX (st.take k) := by simp [absX]
set_option maxHeartbeats 8000000 in
set_option maxRecDepth 100000 in
theorem alClock_c (S : List Nat) (a ia : Nat) (st : List Hi) (hn : st.length ≤ 8) (w : World) (h : IA w S a ia st) : Calls Tryz.prog 7 #[.pointer (some ⟨a, 0, none⟩)] w fun e w' => e = .returned (.int .i64 (clkX (absX st))) ∧ Ext w w' := by
  have a0 := hide (h.1.1.cell 0 rfl)
  have hcl := hide (fun i p (hp : st[i]? = some p) => h.1.2.cell _ (hic_get st i p hp).1)
  have hlt := h.1.1.lt
  have hil := h.1.2.lt
  haveI : In a w := ⟨hlt⟩
  have a0' := a0.out
  clear h
  obtain ⟨R, hR⟩ : ∃ R, R = clkX (absX st) := ⟨_, rfl⟩
  rw [← hR]
  replace hR := hide hR
  go_enter Tryz.func7, Tryz.ntmps7
  go_wp2_with fail
  go_loopg [3, 12] st.length (fun gh t i wr => ∃ (k : Nat) (z : Int), t = .int .i64 z ∧ i = .int .i64 k ∧ k + gh = st.length ∧ Hid (z = clkX (absX (st.take k))) ∧ Ext w wr)
  case atStart => exact ⟨0, 1125899906842624, rfl, rfl, by omega, by simp [Hid, clkX, absX], Ext.refl w⟩
  case round =>
    obtain ⟨k, z, rfl, rfl, hk, hz, hX⟩ := hrel
    have q0 := cell_later hX a0.out
    have hal : a < wr.heap.size := block_lt_of_cell q0
    haveI : In a wr := ⟨hal⟩
    by_cases hlt2 : k < st.length
    · obtain ⟨p, hp⟩ : ∃ p, st[k]? = some p := ⟨_, List.getElem?_eq_getElem hlt2⟩
      have c0 := cell_later hX (hcl.out k p hp)
      have hib : ia < wr.heap.size := block_lt_of_cell c0
      haveI : In ia wr := ⟨hib⟩
      have hkI : (k : Int) < st.length := by omega
      have hnx : Hid (min z p.1 = clkX (absX (st.take (k + 1)))) := by
        show _ = _
        rw [take_snoc hp, show absX (st.take k ++ [p]) = absX (st.take k) ++ [(p.1, eds p.2.2)] by simp [absX], clk_snoc, hz.out]
      obtain ⟨c, v, L⟩ := p
      simp only at c0 hnx
      clear hp hcl hz
      by_cases hm : z ≤ c
      · rw [Int.min_eq_left hm] at hnx
        go_wp2_with fail
        go_roundg (st.length - (k + 1))
        case measure => omega
        case rel => exact ⟨k + 1, z, by simp [hm, Int.min_eq_left hm], by go_num, by omega, hnx, hX⟩
      · rw [Int.min_eq_right (by omega)] at hnx
        go_wp2_with fail
        go_roundg (st.length - (k + 1))
        case measure => omega
        case rel => exact ⟨k + 1, c, by simp [hm, Int.min_eq_right (show c ≤ z by omega)], by go_num, by omega, hnx, hX⟩
    · have hge : (st.length : Int) ≤ k := by omega
      have hRz : Hid (R = z) := by show _ = _; rw [hR.out, hz.out, List.take_of_length_le (by omega)]
      clear hz hR hcl
      go_wp2_with fail
      go_returns
      rw [hRz.out]
      exact ⟨rfl, hX⟩
set_option maxHeartbeats 8000000 in
set_option maxRecDepth 100000 in
theorem alHeld_c (S : List Nat) (a ia : Nat) (st : List Hi) (hn : st.length ≤ 8) (hN : heldN (absX st) ≤ 1000000000) (w : World) (h : IA w S a ia st) : Calls Tryz.prog 8 #[.pointer (some ⟨a, 0, none⟩)] w fun e w' => e = .returned (.int .i64 (heldN (absX st))) ∧ Ext w w' := by
  have a0 := hide (h.1.1.cell 0 rfl)
  have hcl := hide (fun i p (hp : st[i]? = some p) => And.intro (h.1.2.cell _ (hic_get st i p hp).1) (And.intro (h.1.2.cell _ (hic_get st i p hp).2) (ew_one (h.2.1 p (List.mem_of_getElem? hp)))))
  have hlt := h.1.1.lt
  have hil := h.1.2.lt
  haveI : In a w := ⟨hlt⟩
  haveI : In ia w := ⟨hil⟩
  have a0' := a0.out
  clear h
  obtain ⟨R, hR⟩ : ∃ R, R = heldN (absX st) := ⟨_, rfl⟩
  rw [← hR]
  have hRN := hide (show ∀ k, heldN (absX (st.take k)) ≤ 1000000000 from fun k => by
    refine Nat.le_trans ?_ hN
    rw [← absX_take]
    exact held_take (absX st) k)
  replace hR := hide hR
  go_enter Tryz.func8, Tryz.ntmps8
  go_wp2_with fail
  go_loopg [3, 13] st.length (fun gh t i wr => ∃ (k z : Nat), t = .int .i64 z ∧ i = .int .i64 k ∧ k + gh = st.length ∧ Hid (z = heldN (absX (st.take k))) ∧ Ext w wr)
  case atStart => exact ⟨0, 0, rfl, rfl, by omega, by simp [Hid, heldN, absX], Ext.refl w⟩
  case round =>
    obtain ⟨k, z, rfl, rfl, hk, hz, hX⟩ := hrel
    by_cases hlt2 : k < st.length
    · obtain ⟨p, hp⟩ : ∃ p, st[k]? = some p := ⟨_, List.getElem?_eq_getElem hlt2⟩
      obtain ⟨d0, d1, A, cap, hv⟩ := hcl.out k p hp
      have c0 := cell_later hX d0
      have c1 := cell_later hX d1
      have hib : ia < wr.heap.size := block_lt_of_cell c0
      haveI : In ia wr := ⟨hib⟩
      have hkI : (k : Int) < st.length := by omega
      have hnx : Hid (z + p.2.2.length = heldN (absX (st.take (k + 1)))) := by
        show _ = _
        rw [take_snoc hp, show absX (st.take k ++ [p]) = absX (st.take k) ++ [(p.1, eds p.2.2)] by simp [absX], held_snoc, hz.out]
        simp [eds]
      have hz9 := hRN.out (k + 1)
      rw [← hnx.out] at hz9
      obtain ⟨c, v, L⟩ := p
      simp only at c0 c1 hnx hv hz9
      subst hv
      clear hp hcl hz d0 d1 hRN
      go_wp2_with fail
      go_roundg (st.length - (k + 1))
      case measure => omega
      case rel => exact ⟨k + 1, z + L.length, by go_num, by go_num, by omega, hnx, (hX.alloc _)⟩
    · have hge : (st.length : Int) ≤ k := by omega
      have hRz : Hid (R = z) := by show _ = _; rw [hR.out, hz.out, List.take_of_length_le (by omega)]
      clear hz hR hcl hRN
      go_wp2_with fail
      go_returns
      rw [hRz.out]
      exact ⟨rfl, hX⟩
end Go.Proofs.YtjmoifbajjemmaaGreat
set_option linter.unusedVariables false
set_option linter.unusedSimpArgs false
namespace Go.Proofs.YtjmoifbajjemmaaGreat
open Go.RowKit
attribute [local go_sem] GW.cell GW.frozen In.eq_true In.le_true In.ne In.ne' In.ne_add In.ne_add' In.lt_add Upto.le_true Upto.le_add Upto.lt_add
section
variable {w w' : World} {base e size n : Nat} {v : Value} {xs : List Value}
theorem own_heapA (h : w.ownsRow base e size v n xs) {g : Nat} (hg : v.ownBlock = some g) : ∃ cur, w.heap[g]? = some (.cells cur e (0, 0)) := by
  rcases h.2 with ⟨rfl, _⟩ | ⟨g', cap, cur, rfl, hb, hh, _⟩
  · cases hg
  · obtain rfl : g' = g := by simpa [Value.ownBlock] using hg
    exact ⟨cur, hh⟩
theorem own_keepA (h : w.ownsRow base e size v n xs) (hk : ∀ g, v.ownBlock = some g → w'.heap[g]? = w.heap[g]?) : w'.ownsRow base e size v n xs := by
  refine ⟨h.1, ?_⟩
  rcases h.2 with h2 | ⟨g, cap, cur, rfl, hb, hh, r⟩
  · exact .inl h2
  · exact .inr ⟨g, cap, cur, rfl, hb, (hk g (by simp [Value.ownBlock])).trans hh, r⟩
end
theorem two_growA {w w1 : World} {B e1 e2 s1 s2 n1 n2 : Nat} {vb ve v1 : Value} {xs ys : List Value} (hb : w.ownsRow B e1 s1 vb n1 xs) (he : w.ownsRow B e2 s2 ve n2 ys) (hd : ∀ g, vb.ownBlock = some g → ve.ownBlock ≠ some g) (hg : w.grownBy w1 vb.ownBlock)
    (hv : v1.ownBlock = vb.ownBlock ∨ v1.ownBlock = some w.heap.size) : w1.ownsRow B e2 s2 ve n2 ys ∧ ∀ g, v1.ownBlock = some g → ve.ownBlock ≠ some g := by
  refine ⟨own_keepA he fun g h => hg.block g ?_ fun e => hd g e.symm h, fun g h1 h2 => ?_⟩
  · obtain ⟨cur, hh⟩ := own_heapA he h; exact lt_of_block hh
  · rcases hv with hv | hv
    · exact hd g (hv ▸ h1) h2
    · rw [hv] at h1
      obtain rfl := Option.some.inj h1
      obtain ⟨cur, hh⟩ := own_heapA he h2
      exact Nat.lt_irrefl _ (lt_of_block hh)
def PairD (v1 v2 : Value) : Prop := ∀ g, v1.ownBlock = some g → v2.ownBlock ≠ some g
theorem PairD.swap {v1 v2 : Value} (h : PairD v1 v2) : PairD v2 v1 := fun g h1 h2 => h g h2 h1
def aheadV (t : Int) (x : Ve) : Bool := ahT t x.2.2
theorem filter_yes {α : Type} {p : α → Bool} {L : List α} {k : Nat} {x : α} (hx : L[k]? = some x) (h : p x = true) : (L.take (k + 1)).filter p = (L.take k).filter p ++ [x] := by
  rw [take_snoc hx, List.filter_append]; simp [h]
theorem filter_no {α : Type} {p : α → Bool} {L : List α} {k : Nat} {x : α} (hx : L[k]? = some x) (h : p x = false) : (L.take (k + 1)).filter p = (L.take k).filter p := by
  rw [take_snoc hx, List.filter_append]; simp [h]
set_option maxHeartbeats 8000000 in
set_option maxRecDepth 100000 in
theorem part_c (t : Int) (cb : Nat) (L : List Ve) (hL : L.length ≤ 1000000000) (v : Value) (w : World) (hcb0 : Ob w cb 3 [.int .i64 t]) (h : Ew w [] v L) : Calls Tryz.prog 23 #[v, .func (.func 41) #[] #[.pointer (some ⟨cb, 0, none⟩)]] w fun e w' => ∃ v1 v2, e = .returned (.tuple #[v1, v2]) ∧ OwnE w' w.heap.size v1 (L.filter (aheadV t)) ∧ OwnE w' w.heap.size v2 (L.filter fun x => !aheadV t x) ∧ Hid (PairD v1 v2) ∧ Ext w w' := by
  obtain ⟨A, cap, rfl, hl, hm, hat⟩ := ew_form h
  unfold maxLen at hm
  replace hat := hide hat
  have hcb := hide hcb0
  clear hcb0
  have hrows := hide h.2
  clear h
  go_enter Tryz.func23, Tryz.ntmps23
  go_wp2_with fail
  go_loopg [4, 5, 10] L.length (fun gh v1 v2 i wr => ∃ (k : Nat) (a1 a2 : List Ve), i = .int .i64 k ∧ k + gh = L.length ∧ OwnE wr w.heap.size v1 a1 ∧ OwnE wr w.heap.size v2 a2 ∧ a1.length ≤ k ∧ a2.length ≤ k ∧ Hid (a1 = (L.take k).filter (aheadV t)) ∧ Hid (a2 = (L.take k).filter fun x => !aheadV t x) ∧ Hid (PairD v1 v2) ∧ Ext w wr)
  case atStart => exact ⟨0, [], [], rfl, by omega, World.ownsRow_nil _ _ _ _, World.ownsRow_nil _ _ _ _, Nat.le_refl _, Nat.le_refl _, (by show _ = _; simp), (by show _ = _; simp), (by intro g hg; simp [Value.ownBlock] at hg), Ext.refl w⟩
  case round =>
    obtain ⟨k, a1, a2, rfl, hk, ho1, ho2, hk1, hk2, ha1, ha2, hd, hX⟩ := hrel
    obtain ⟨C1, cap1, rfl⟩ := own_form ho1
    obtain ⟨C2, cap2, rfl⟩ := own_form ho2
    replace ho1 := hide ho1
    replace ho2 := hide ho2
    by_cases hlt : k < L.length
    · obtain ⟨x, hx⟩ : ∃ x, L[k]? = some x := ⟨_, List.getElem?_eq_getElem hlt⟩
      obtain ⟨b, o, rfl, -, hb, c0, c1, c2⟩ := hat.out k x hx
      have k0 := cell_later hX c0
      have k1 := cell_later hX c1
      have k2 := cell_later hX c2
      have hbr : b < wr.heap.size := block_lt_of_cell k0
      have hzX := hX.size
      have hrw := Sl.ext (hrows.out x (List.mem_of_getElem? hx)) hX
      have hxx := hide hx
      obtain ⟨xv, xq, xa, xn⟩ := x
      simp only at k0 k1 k2 hrw
      obtain ⟨XA, xcap, rfl⟩ := rw_val hrw
      obtain ⟨W1, hW1⟩ : ∃ W1, W1 = wr.alloc (.cells #[.slice XA xq.length xcap, .int .i64 xa, .int .i64 xn] 44) := ⟨_, rfl⟩
      have hX1 : Ext wr W1 := by rw [hW1]; exact (Ext.refl wr).alloc _
      have hob := Ob.new wr 44 [.slice XA xq.length xcap, .int .i64 xa, .int .i64 xn]
      have hin := hide (fun w' (hXw : Ext W1 w') => ahd_c xq (xa, xn) (.slice XA xq.length xcap) cb t w' (hcb.out.ext ((hX.trans hX1).trans hXw)) (Sl.ext hrw (hX1.trans hXw)))
      rw [hW1] at hin
      replace hX1 := hide hX1
      replace hW1 := hide hW1
      have e0 := hob.cell 0 rfl
      have e1 := hob.cell 1 rfl
      have e2 := hob.cell 2 rfl
      replace hob := hide hob
      clear c0 c1 c2 hat hx hrows hrw
      cases hmx : ahT t (xa, xn)
      · rw [hmx] at hin
        have hf1 := hide (filter_no (p := aheadV t) hxx.out hmx)
        have hf2 := hide (filter_yes (p := fun x => !aheadV t x) hxx.out (show (!aheadV t (_, _, xa, xn)) = true by unfold aheadV; rw [hmx]; rfl))
        replace hmx := hide hmx
        go_wp2_with (first | (go_at_call 41; (with_reducible refine seq_gw (hin.out _ (Ext.refl _)) ?_); intro g) | (at_builtin; (refine wpl_app tEdg rfl (.tmp 21) (.tmp 23) rfl rfl (own_ext ho2.out (((Ext.refl wr).alloc (.cells #[.slice XA xq.length xcap, .int .i64 xa, .int .i64 xn] 44)).trans (g.grown.alloc (.cells #[.slice XA xq.length xcap, .int .i64 xa, .int .i64 xn] 44)))) rfl (src_sl Tryz.underlying34 (oneE_new (.slice XA xq.length xcap) xq (xa, xn) g.val) (ec1_one rfl) (by omega)) (by unfold maxLen; omega) (by omega) (by have := g.grown.size; simp only [World.size_alloc] at *; omega) ?_; intro v8 w8 ho8 hg8 hv8; have hXX := hide (((Ext.refl wr).alloc (.cells #[.slice XA xq.length xcap, .int .i64 xa, .int .i64 xn] 44)).trans (g.grown.alloc (.cells #[.slice XA xq.length xcap, .int .i64 xa, .int .i64 xn] 44))); have ht8 := hide (two_growA (own_ext ho2.out hXX.out) (own_ext ho1.out hXX.out) hd.out.swap hg8 hv8); have hX8 := hide (ext_grown (hX.trans hXX.out) hg8 (fun q hq => (ho2.out.lt q hq).1)))))
        go_roundg (L.length - (k + 1))
        case measure => omega
        case rel => exact ⟨k + 1, a1, a2 ++ [(.slice XA xq.length xcap, xq, xa, xn)], by go_num, by omega, ht8.out.1, own_appE (M := [(.slice XA xq.length xcap, xq, xa, xn)]) (by simpa [ec, ec1] using ho8), by omega, by rw [List.length_append, List.length_singleton]; omega, by show _ = _; rw [hf1.out, ha1.out], by show _ = _; rw [hf2.out, ha2.out], PairD.swap ht8.out.2, hX8.out⟩
      · rw [hmx] at hin
        have hf1 := hide (filter_yes (p := aheadV t) hxx.out hmx)
        have hf2 := hide (filter_no (p := fun x => !aheadV t x) hxx.out (show (!aheadV t (_, _, xa, xn)) = false by unfold aheadV; rw [hmx]; rfl))
        replace hmx := hide hmx
        go_wp2_with (first | (go_at_call 41; (with_reducible refine seq_gw (hin.out _ (Ext.refl _)) ?_); intro g) | (at_builtin; (refine wpl_app tEdg rfl (.tmp 17) (.tmp 19) rfl rfl (own_ext ho1.out (((Ext.refl wr).alloc (.cells #[.slice XA xq.length xcap, .int .i64 xa, .int .i64 xn] 44)).trans (g.grown.alloc (.cells #[.slice XA xq.length xcap, .int .i64 xa, .int .i64 xn] 44)))) rfl (src_sl Tryz.underlying34 (oneE_new (.slice XA xq.length xcap) xq (xa, xn) g.val) (ec1_one rfl) (by omega)) (by unfold maxLen; omega) (by omega) (by have := g.grown.size; simp only [World.size_alloc] at *; omega) ?_; intro v8 w8 ho8 hg8 hv8; have hXX := hide (((Ext.refl wr).alloc (.cells #[.slice XA xq.length xcap, .int .i64 xa, .int .i64 xn] 44)).trans (g.grown.alloc (.cells #[.slice XA xq.length xcap, .int .i64 xa, .int .i64 xn] 44))); have ht8 := hide (two_growA (own_ext ho1.out hXX.out) (own_ext ho2.out hXX.out) hd.out hg8 hv8); have hX8 := hide (ext_grown (hX.trans hXX.out) hg8 (fun q hq => (ho1.out.lt q hq).1)))))
        go_roundg (L.length - (k + 1))
        case measure => omega
        case rel => exact ⟨k + 1, a1 ++ [(.slice XA xq.length xcap, xq, xa, xn)], a2, by go_num, by omega, own_appE (M := [(.slice XA xq.length xcap, xq, xa, xn)]) (by simpa [ec, ec1] using ho8), ht8.out.1, by rw [List.length_append, List.length_singleton]; omega, by omega, by show _ = _; rw [hf1.out, ha1.out], by show _ = _; rw [hf2.out, ha2.out], ht8.out.2, hX8.out⟩
    · have hk' : k = L.length := by omega
      have hge : (L.length : Int) ≤ k := by omega
      have h1 := ha1.out
      have h2 := ha2.out
      rw [List.take_of_length_le (by omega)] at h1 h2
      replace h1 := hide h1
      replace h2 := hide h2
      replace hk' := hide hk'
      clear ha1 ha2
      go_wp2_with fail
      go_returns
      exact ⟨_, _, rfl, by rw [← h1.out]; exact ho1.out, by rw [← h2.out]; exact ho2.out, hd, hX⟩
end Go.Proofs.YtjmoifbajjemmaaGreat
