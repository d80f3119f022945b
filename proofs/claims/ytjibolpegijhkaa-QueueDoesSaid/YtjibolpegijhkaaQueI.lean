/-
  A helper of ours: no claim of its own. Layer 15 (queue): the document's queue.
-/
import Derived.Test.YtjibolpegijhkaaQueH
set_option linter.unusedVariables false
set_option linter.unusedSimpArgs false
namespace Go.Proofs.Ytjibolpegijhkaa
open Go.RowKit
attribute [local go_sem] GW.cell GW.frozen In.eq_true In.le_true In.ne In.ne' In.ne_add In.ne_add' In.lt_add Upto.le_true Upto.le_add Upto.lt_add
attribute [-go_sem] sliced
attribute [local go_sem] sliced_eq
/-- The document's queue in memory. -/
def Rs (w : World) (B r : Nat) (L : List Jp) : Prop := B ≤ r ∧ ∃ v, Ob w r 32 [v] ∧ OwnJ w B v L
theorem Rs.ext {w w' : World} {B r : Nat} {L : List Jp} (h : Rs w B r L) (k : Ext w w') : Rs w' B r L := by
  obtain ⟨h0, v, h1, h2⟩ := h
  exact ⟨h0, v, h1.ext k, own_ext h2 k⟩
theorem Rs.ft {w w' : World} {B r : Nat} {L : List Jp} {Ts : List TypeId} (h : Rs w B r L) (k : Ft B Ts w w') (h1 : 32 ∉ Ts) (h2 : 27 ∉ Ts) : Rs w' B r L := by
  obtain ⟨h0, v, k1, k2⟩ := h
  exact ⟨h0, v, k.ob k1 h1, k.own k2 h2⟩
theorem Rs.lt {w : World} {B r : Nat} {L : List Jp} (h : Rs w B r L) : r < w.heap.size := by obtain ⟨_, v, h1, _⟩ := h; exact h1.lt
theorem fst_snoc {L : List Jp} {k a : Nat} {x y : Jp} (hx : L[k]? = some x) (ha : L[a]? = some y) (h : Fst (L.take k) a) : Fst (L.take (k + 1)) (if x.1 < y.1 then k else a) := by
  have hkl := (List.getElem?_eq_some_iff.1 hx).1
  have hak := fst_lt h
  rw [List.length_take] at hak
  obtain ⟨y', hy', h1, h2⟩ := h
  have e1 : (L.take k)[a]? = L[a]? := by rw [List.getElem?_take, if_pos (by omega)]
  rw [e1, ha] at hy'
  cases hy'
  have up : ∀ j u, j < k → L[j]? = some u → (L.take k)[j]? = some u := fun j u hj hu => by rw [List.getElem?_take, if_pos hj]; exact hu
  by_cases hlt : x.1 < y.1
  · rw [if_pos hlt]
    refine ⟨x, by rw [List.getElem?_take, if_pos (by omega)]; exact hx, ?_, ?_⟩
    · intro j u hj hu
      rw [List.getElem?_take, if_pos (by omega)] at hu
      rcases Nat.lt_or_ge j a with h | h
      · have := h1 j u h (up j u hj hu); omega
      · have := h2 j u h (up j u hj hu); omega
    · intro j u hj hu
      have hj2 : j < k + 1 := by
        rcases Nat.lt_or_ge j (k + 1) with h | h
        · exact h
        · rw [List.getElem?_take, if_neg (by omega)] at hu; cases hu
      obtain rfl : j = k := by omega
      rw [List.getElem?_take, if_pos (by omega), hx] at hu
      cases hu; omega
  · rw [if_neg hlt]
    refine ⟨y, by rw [List.getElem?_take, if_pos (by omega)]; exact ha, ?_, ?_⟩
    · intro j u hj hu
      rw [List.getElem?_take, if_pos (by omega)] at hu
      exact h1 j u hj (up j u (by omega) hu)
    · intro j u hj hu
      have hj2 : j < k + 1 := by
        rcases Nat.lt_or_ge j (k + 1) with h | h
        · exact h
        · rw [List.getElem?_take, if_neg (by omega)] at hu; cases hu
      rw [List.getElem?_take, if_pos hj2] at hu
      rcases Nat.lt_or_ge j k with h | h
      · exact h2 j u hj (up j u h hu)
      · obtain rfl : j = k := by omega
        rw [hx] at hu; cases hu; omega
theorem fst_first {L : List Jp} {x : Jp} (hx : L[0]? = some x) : Fst (L.take 1) 0 := by
  rcases L with _ | ⟨z, t⟩
  · simp at hx
  · simp at hx; subst hx
    refine ⟨z, by simp, fun j y hj => by omega, fun j y hj hy => ?_⟩
    rcases j with _ | j
    · simp at hy; subst hy; omega
    · simp at hy
/-- The place of the first one; -1: none. -/
def fstI (L : List Jp) : Int := if L = [] then -1 else (fstF L : Int)
set_option maxHeartbeats 8000000 in
set_option maxRecDepth 100000 in
theorem rfirst_c (B r : Nat) (L : List Jp) (hL : L.length ≤ 1000000) (w : World) (h : Rs w B r L) : Calls Try.prog 20 #[.pointer (some ⟨r, 0, none⟩)] w fun e w' => e = .returned (.int .i64 (fstI L)) ∧ Ext w w' := by
  obtain ⟨-, v, hO, hJ⟩ := h
  obtain ⟨A, cap, rfl, hlc, hlm, hat⟩ := jw_form (own_jw (S := []) hJ (by simp))
  have r0 := hide (hO.cell 0 rfl)
  replace hat := hide hat
  have hLI : (L.length : Int) ≤ 1000000 := by omega
  clear hO hJ
  obtain ⟨R, hR⟩ : ∃ R, R = fstI L := ⟨_, rfl⟩
  rw [← hR]
  replace hR := hide hR
  go_enter Try.func20, Try.ntmps20
  go_wp2_with fail
  go_loopg [3, 4] L.length (fun gh at' i wr => ∃ (k : Nat) (z : Int), at' = .int .i64 z ∧ i = .int .i64 k ∧ k + gh = L.length ∧ Hid ((k = 0 ∧ z = -1) ∨ (∃ a : Nat, z = a ∧ Fst (L.take k) a)) ∧ Ext w wr)
  case atStart => exact ⟨0, -1, rfl, rfl, by omega, .inl ⟨rfl, rfl⟩, Ext.refl w⟩
  case round =>
    obtain ⟨k, z, rfl, rfl, hk, hz, hX⟩ := hrel
    have q0 := jcell_later hX r0.out
    have hrl : r < wr.heap.size := block_lt_of_cell q0
    haveI : In r wr := ⟨hrl⟩
    by_cases hlt : k < L.length
    · obtain ⟨x, hx⟩ : ∃ x, L[k]? = some x := ⟨_, List.getElem?_eq_getElem hlt⟩
      obtain ⟨b, o, rfl, -, hbl, c0, -⟩ := hat.out k x hx
      have k0 := jcell_later hX c0
      have hbr : b < wr.heap.size := block_lt_of_cell k0
      haveI : In b wr := ⟨hbr⟩
      have hltI : (k : Int) < L.length := by omega
      obtain ⟨xa, xn⟩ := x
      simp only at k0
      rcases hz.out with ⟨rfl, rfl⟩ | ⟨a, rfl, ha⟩
      · have hn := hide (fst_first hx)
        clear hz hat c0 hx
        go_wp2_with fail
        go_quiet (fail)
        go_wp2_with fail
        go_roundg (L.length - 1)
        case measure => omega
        case rel => exact ⟨1, 0, rfl, rfl, by omega, .inr ⟨0, rfl, hn.out⟩, hX.trans (by first | exact Ext.refl _ | exact (Ext.refl _).drew | exact (Ext.refl _).drewN _)⟩
      · have hal := fst_lt ha
        rw [List.length_take] at hal
        obtain ⟨y, hy⟩ : ∃ y, L[a]? = some y := ⟨_, List.getElem?_eq_getElem (by omega)⟩
        obtain ⟨b', o', e', -, -, d0, -⟩ := hat.out a y hy
        simp only [Option.some.injEq, Addr.mk.injEq, and_true] at e'
        obtain ⟨rfl, rfl⟩ := e'
        have m0 := jcell_later hX d0
        have hn := hide (fst_snoc hx hy ha)
        have haI : (a : Int) < L.length := by omega
        have han : ¬ (a : Int) < 0 := by omega
        have hand : decide ((a : Int) < 0) = false := decide_eq_false han
        obtain ⟨ya, yn⟩ := y
        simp only at m0 hn
        by_cases hc : xa < ya
        · have hcd : decide (xa < ya) = true := decide_eq_true hc
          rw [if_pos hc] at hn
          clear hz hat c0 d0 hx hy ha
          replace hc := hide hc
          go_wp2_with fail
          go_quiet (fail)
          go_wp2_with fail
          go_roundg (L.length - (k + 1))
          case measure => omega
          case rel => exact ⟨k + 1, k, rfl, by go_num, by omega, .inr ⟨k, rfl, hn.out⟩, hX.trans (by first | exact Ext.refl _ | exact (Ext.refl _).drew | exact (Ext.refl _).drewN _)⟩
        · have hcd : decide (xa < ya) = false := decide_eq_false hc
          rw [if_neg hc] at hn
          clear hz hat c0 d0 hx hy ha
          replace hc := hide hc
          go_wp2_with fail
          go_quiet (fail)
          go_wp2_with fail
          go_roundg (L.length - (k + 1))
          case measure => omega
          case rel => exact ⟨k + 1, a, rfl, by go_num, by omega, .inr ⟨a, rfl, hn.out⟩, hX.trans (by first | exact Ext.refl _ | exact (Ext.refl _).drew | exact (Ext.refl _).drewN _)⟩
    · have hge : (L.length : Int) ≤ k := by omega
      have hRz : Hid (R = z) := by
        show _ = _
        rw [hR.out]
        have hkl : k = L.length := by omega
        unfold fstI
        rcases hz.out with ⟨h0, rfl⟩ | ⟨a, rfl, ha⟩
        · rw [if_pos (List.eq_nil_of_length_eq_zero (by omega))]
        · rw [hkl, List.take_length] at ha
          have hne : L ≠ [] := by intro e; have := fst_lt ha; rw [e] at this; simp at this
          rw [if_neg hne, fst_one ha (fstF_spec L hne)]
      clear hz hat hR
      go_wp2_with fail
      go_returns
      rw [hRz.out]
      exact ⟨rfl, hX⟩
set_option maxHeartbeats 4000000 in
set_option maxRecDepth 100000 in
theorem rpeek_c (B r : Nat) (L : List Jp) (hL : L.length ≤ 1000000) (w : World) (h : Rs w B r L) : Calls Try.prog 13 #[.pointer (some ⟨r, 0, none⟩)] w fun e w' => e = .returned (.tuple #[jm (hdL L), .bool (decide (0 < L.length))]) ∧ Ext w w' := by
  have hf := hide (fun w' (hX : Ext w w') => rfirst_c B r L hL w' (h.ext hX))
  have hrl := h.lt
  haveI : In r w := ⟨hrl⟩
  obtain ⟨-, v, hO, hJ⟩ := h
  by_cases h0 : L = []
  · subst h0
    have e1 : fstI [] = -1 := rfl
    have e2 : hdL [] = (0, 0) := rfl
    rw [e2]
    rw [e1] at hf
    clear hO hJ e1 e2
    go_enter Try.func13, Try.ntmps13
    go_wp2_with (go_at_call 20; (with_reducible refine seq_gw (hf.out _ ((Ext.refl _).alloc _)) ?_); intro g)
    go_returns
    exact ⟨by simp [jm], ((((Ext.refl w).alloc _).trans g.grown).setCell (Nat.le_refl _) _).setCell (Nat.le_refl _) _⟩
  · obtain ⟨A, cap, rfl, hlc, hlm, hat⟩ := jw_form (own_jw (S := []) hJ (by simp))
    have hF := fstF_spec L h0
    have hal := fst_lt hF
    obtain ⟨hhd, -⟩ := hdL_get hF
    have r0 := hO.cell 0 rfl
    obtain ⟨b, o, rfl, -, hbl, c0, c1⟩ := hat _ _ hhd
    haveI : In b w := ⟨hbl⟩
    unfold fstI at hf
    rw [if_neg h0] at hf
    rw [decide_eq_true (show 0 < L.length by omega)]
    obtain ⟨⟨xa, xn⟩, hx⟩ : ∃ x, x = hdL L := ⟨_, rfl⟩
    rw [← hx] at c0 c1 ⊢
    generalize fstF L = a at *
    have haI : (a : Int) < L.length := by omega
    have han : ¬ (a : Int) < 0 := by omega
    have hand : decide ((a : Int) < 0) = false := decide_eq_false han
    clear hO hJ hat hF hhd hx h0
    go_enter Try.func13, Try.ntmps13
    go_wp2_with (go_at_call 20; (with_reducible refine seq_gw (hf.out _ ((Ext.refl _).alloc _)) ?_); intro g)
    go_returns
    exact ⟨by simp [jm], ((((Ext.refl w).alloc _).trans g.grown).setCell (Nat.le_refl _) _).setCell (Nat.le_refl _) _⟩
end Go.Proofs.Ytjibolpegijhkaa
