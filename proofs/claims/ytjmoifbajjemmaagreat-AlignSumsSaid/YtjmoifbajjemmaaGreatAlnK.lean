/-
  A helper of ours: no claim of its own. Layer 16 (align): scripts that come in; whether one is small; lists of lists of edges that are alike.
-/
import Derived.Test.YtjmoifbajjemmaaGreatAlnJ
import Derived.Test.YtjmoifbajjemmaaGreatEdgD
set_option linter.unusedVariables false
set_option linter.unusedSimpArgs false
namespace Go.Proofs.YtjmoifbajjemmaaGreat
open Go.RowKit Go.Deep Go.ChangeShapes
attribute [local go_sem] GW.cell GW.frozen In.eq_true In.le_true In.ne In.ne' In.ne_add In.ne_add' In.lt_add Upto.le_true Upto.le_add Upto.lt_add
/-- A step of a script: its kind, input and tick; the slice of its edges, and the edges. -/
abbrev Op4 := (Int × Int × Int) × Value × List Ve
def oc41 (p : Op4) : List Value := [.int .i64 p.1.1, .int .i64 p.1.2.1, p.2.1, .int .i64 p.1.2.2]
def oc4 (L : List Op4) : List Value := L.flatMap oc41
theorem oc4_length (L : List Op4) : (oc4 L).length = L.length * 4 := by
  induction L with
  | nil => rfl
  | cons p r ih => simp only [oc4, oc41, List.flatMap_cons, List.length_append, List.length_cons, List.length_nil] at ih ⊢; omega
theorem oc4_get : ∀ (L : List Op4) (i : Nat) (p : Op4), L[i]? = some p → ∀ j v, (oc41 p)[j]? = some v → (oc4 L)[i * 4 + j]? = some v
  | q :: r, 0, p, h, j, v, hv => by
    simp at h; subst h
    have hj : j < (oc41 q).length := (List.getElem?_eq_some_iff.1 hv).1
    rw [show oc4 (q :: r) = oc41 q ++ oc4 r by simp [oc4], List.getElem?_append_left (by omega), show 0 * 4 + j = j by omega]; exact hv
  | q :: r, i + 1, p, h, j, v, hv => by
    have := oc4_get r i p (by simpa using h) j v hv
    rw [show oc4 (q :: r) = oc41 q ++ oc4 r by simp [oc4], show (i + 1) * 4 + j = (oc41 q).length + (i * 4 + j) by simp [oc41]; omega, List.getElem?_append_right (by omega), Nat.add_sub_cancel_left]
    exact this
theorem oc4_at (L : List Op4) (j : Nat) (u : Value) (h : (oc4 L)[j]? = some u) : ∃ i q k, L[i]? = some q ∧ j = i * 4 + k ∧ (oc41 q)[k]? = some u := by
  have hj : j < L.length * 4 := by
    rcases Nat.lt_or_ge j (L.length * 4) with h1 | h1
    · exact h1
    · rw [List.getElem?_eq_none (by rw [oc4_length]; exact h1)] at h; cases h
  have hi : j / 4 < L.length := by omega
  refine ⟨j / 4, L[j / 4], j % 4, List.getElem?_eq_getElem hi, by omega, ?_⟩
  have hk : j % 4 < (oc41 L[j / 4]).length := by simp [oc41]; omega
  have := oc4_get L (j / 4) _ (List.getElem?_eq_getElem hi) (j % 4) _ (List.getElem?_eq_getElem hk)
  rw [show j / 4 * 4 + j % 4 = j by omega, h] at this
  rw [List.getElem?_eq_getElem hk]
  exact this.symm
def Oz (w : World) (v : Value) (L : List Op4) : Prop := Sl w [] 4 v L.length (oc4 L) ∧ ∀ p ∈ L, Ew w [] p.2.1 p.2.2
theorem oz_form {w : World} {v : Value} {L : List Op4} (h : Oz w v L) : ∃ A cap, v = .slice A L.length cap ∧ L.length ≤ cap ∧ cap ≤ maxLen ∧
    ∀ (i : Nat) (p : Op4), L[i]? = some p → ∃ b o, A = some ⟨b, o, none⟩ ∧ b < w.heap.size ∧ w.cell? ⟨b, o + i * 4, none⟩ = some (.int .i64 p.1.1) ∧ w.cell? ⟨b, o + i * 4 + 1, none⟩ = some (.int .i64 p.1.2.1) ∧ w.cell? ⟨b, o + i * 4 + 2, none⟩ = some p.2.1 ∧ w.cell? ⟨b, o + i * 4 + 3, none⟩ = some (.int .i64 p.1.2.2) := by
  obtain ⟨⟨A, cap, rfl, h1, h2, h3, h4⟩, -⟩ := h
  refine ⟨A, cap, rfl, h1, h2, fun i p hp => ?_⟩
  have hg := oc4_get L i p hp
  rcases h4 with h4 | ⟨b, o, rfl, hb, hc⟩
  · have := hg 0 _ rfl; rw [h4] at this; cases this
  · have c0 := hc _ _ (hg 0 _ rfl)
    have c1 := hc _ _ (hg 1 _ rfl)
    have c2 := hc _ _ (hg 2 _ rfl)
    have c3 := hc _ _ (hg 3 _ rfl)
    exact ⟨b, o, rfl, block_lt_of_cell c0, c0, c1, c2, c3⟩
section
variable {H : Type} {enc : TypeId × Value → H} {P : Program} {w : World} {base fuel : Nat} {held : Bool}
theorem open_ops4 {t eo e r : TypeId} {b0 b1 b2 b3 f0 f1 f2 g0 g1 g2 : Field} {v : Value} {x : DataW H × List MemPlace} (ht : P.underlying t = some (.slice eo)) (he0 : P.underlying eo = some (.struct #[b0, b1, b2, b3]))
    (ce0 : P.cellsOf eo = 4) (o0' : b0.offset = 0) (o1' : b1.offset = 1) (o2' : b2.offset = 2) (o3' : b3.offset = 3) (c0' : P.cellsOf b0.type = 1) (c1' : P.cellsOf b1.type = 1) (c2' : P.cellsOf b2.type = 1) (c3' : P.cellsOf b3.type = 1)
    (u0' : P.underlying b0.type = some (.int .i64)) (u1' : P.underlying b1.type = some (.int .i64)) (u3' : P.underlying b3.type = some (.int .i64))
    (hte : P.underlying b2.type = some (.slice e)) (he : P.underlying e = some (.struct #[f0, f1, f2]))
    (ce : P.cellsOf e = 3) (o0 : f0.offset = 0) (o1 : f1.offset = 1) (o2 : f2.offset = 2) (c0 : P.cellsOf f0.type = 1) (c1 : P.cellsOf f1.type = 1) (c2 : P.cellsOf f2.type = 1)
    (u0 : P.underlying f0.type = some (.slice r)) (u1 : P.underlying f1.type = some (.int .i64)) (u2 : P.underlying f2.type = some (.int .i64))
    (hr : P.underlying r = some (.struct #[g0, g1, g2])) (cr : P.cellsOf r = 3) (p0 : g0.offset = 0) (p1 : g1.offset = 1) (p2 : g2.offset = 2) (d0 : P.cellsOf g0.type = 1) (d1 : P.cellsOf g1.type = 1) (d2 : P.cellsOf g2.type = 1)
    (y0 : P.underlying g0.type = some (.int .i64)) (y1 : P.underlying g1.type = some (.int .i64)) (y2 : P.underlying g2.type = some .string)
    (h : DataW.trod enc P w base (fun _ => true) held fuel t [v] = some x) : ∃ L : List Op4, L.length = sliceLen x.1 ∧ Oz w v L := by
  rcases open_slice ht h with ⟨h1, rfl⟩ | ⟨a, len, cap, m, n, D, Pl, h1, _, hl, hm, hmm, rfl, hel⟩
  · obtain rfl : v = .slice none 0 0 := by simpa using h1
    exact ⟨[], rfl, Sl.nil _ _ _, by simp⟩
  · obtain rfl : v = .slice (some a) len cap := by simpa using h1
    simp only [if_true] at hmm
    have each : ∀ i, i < len → ∃ p : Op4, (∀ k u, (oc41 p)[k]? = some u → w.cell? ((a.add (i * 4)).add k) = some u) ∧ Ew w [] p.2.1 p.2.2 := by
      intro i hi
      obtain ⟨cs, hc, htr⟩ := hel i (by omega)
      rw [ce0] at hc
      obtain ⟨_, hlen, hat⟩ := World.cells?_some hc
      obtain ⟨xs, k, _, _, _, hxl, hf⟩ := DataW.trod_struct he0 htr
      match cs, hlen with
      | [w0, w1, w2, w3], _ =>
        match xs, hxl with
        | [z0, z1, z2, z3], _ =>
          have q0 := hf 0 b0 rfl
          have q1 := hf 1 b1 rfl
          have q2 := hf 2 b2 rfl
          have q3 := hf 3 b3 rfl
          rw [o0', c0'] at q0
          rw [o1', c1'] at q1
          rw [o2', c2'] at q2
          rw [o3', c3'] at q3
          obtain ⟨a0, e0, _, _⟩ := DataW.trod_int u0' (show DataW.trod enc P w base (fun _ => true) held k b0.type [w0] = some _ from by simpa using q0)
          obtain ⟨a1, e1, _, _⟩ := DataW.trod_int u1' q1
          obtain ⟨a3, e3, _, _⟩ := DataW.trod_int u3' q3
          obtain ⟨L, _, hL⟩ := open_edges hte he ce o0 o1 o2 c0 c1 c2 u0 u1 u2 hr cr p0 p1 p2 d0 d1 d2 y0 y1 y2 (show DataW.trod enc P w base (fun _ => true) held k b2.type [w2] = some _ from by simpa using q2)
          simp at e0 e1 e3
          subst e0; subst e1; subst e3
          refine ⟨((a0, a1, a3), w2, L), fun k u hu => ?_, hL⟩
          have hk : k < 4 := by simpa [oc41] using (List.getElem?_eq_some_iff.1 hu).1
          rw [hat k hk]
          exact hu
    obtain ⟨p, hp⟩ := choose_lt (α := Op4) (p := fun i p => (∀ k u, (oc41 p)[k]? = some u → w.cell? ((a.add (i * 4)).add k) = some u) ∧ Ew w [] p.2.1 p.2.2) each
    refine ⟨(List.range len).map p, by simp [sliceLen], ⟨some a, cap, by simp, by simpa using hl, hm, by rw [oc4_length], ?_⟩, ?_⟩
    · by_cases h0 : len = 0
      · left; subst h0; rfl
      right
      have hz := (hp 0 (by omega)).1 0 _ rfl
      obtain ⟨b, o, rfl⟩ := addr_plain (i := 0) (a := a) (by
        have e0 : (a.add (0 * 4)).add 0 = a.add 0 := by rw [Nat.zero_mul]; exact (show (a.add 0).add 0 = a.add (0 + 0) from Go.Deep.add_add ..)
        rw [e0] at hz; exact hz) rfl
      refine ⟨b, o, rfl, by simp, fun j u hu => ?_⟩
      obtain ⟨i, q, k, hq, rfl, hk⟩ := oc4_at _ j u hu
      have hi : i < len := by
        rcases Nat.lt_or_ge i len with h | h
        · exact h
        · rw [List.getElem?_eq_none (by simpa using h)] at hq; cases hq
      have hq' : q = p i := by simpa [hi] using hq.symm
      subst hq'
      have := (hp i hi).1 k u hk
      rw [add_plain, add_plain, Nat.add_assoc] at this
      exact this
    · intro q hq
      obtain ⟨i, hi, rfl⟩ := List.mem_map.1 hq
      exact (hp i (List.mem_range.1 hi)).2
end
/-- How many steps and edges a script has, as far as it counts. -/
def szN (l : List Op4) : Nat := l.length + (l.map fun p => min p.2.2.length 61).sum
theorem sum_pre (f : Op4 → Nat) (l : List Op4) : ∀ k, ((l.take k).map f).sum ≤ (l.map f).sum := by
  induction l with
  | nil => intro k; simp
  | cons p r ih =>
    intro k
    cases k with
    | zero => simp
    | succ k => have := ih k; simp only [List.take_succ_cons, List.map_cons, List.sum_cons]; omega
set_option maxHeartbeats 4000000 in
set_option maxRecDepth 100000 in
theorem alSmall_c (l : List Op4) (v : Value) (w : World) (h : Oz w v l) : Calls Tryz.prog 10 #[v] w fun e w' => e = .returned (.bool (decide (szN l ≤ 60))) ∧ Ext w w' := by
  have hel := hide (fun p (hp : p ∈ l) => ew_one (h.2 p hp))
  obtain ⟨A, cap, rfl, hlc, hlm, hat⟩ := oz_form h
  unfold maxLen at hlm
  replace hat := hide hat
  clear h
  obtain ⟨R, hR⟩ : ∃ R, R = decide (szN l ≤ 60) := ⟨_, rfl⟩
  rw [← hR]
  replace hR := hide hR
  go_enter Tryz.func10, Tryz.ntmps10
  go_wp2_with fail
  go_loopg [3, 4] l.length (fun gh z i wr => ∃ (k y : Nat), z = .int .i64 y ∧ i = .int .i64 k ∧ k + gh = l.length ∧ Hid (y = l.length + ((l.take k).map fun p => min p.2.2.length 61).sum) ∧ Ext w wr)
  case atStart => exact ⟨0, l.length, rfl, rfl, by omega, (by show _ = _; simp), Ext.refl w⟩
  case round =>
    obtain ⟨k, y, rfl, rfl, hk, hy, hX⟩ := hrel
    by_cases hlt : k < l.length
    · have hkI : (k : Int) < l.length := by omega
      have d1 : decide ((k : Int) < l.length) = true := decide_eq_true hkI
      by_cases hy6 : y ≤ 60
      · have d2 : decide ((y : Int) ≤ 60) = true := decide_eq_true (by omega)
        have hyI : (y : Int) ≤ 60 := by omega
        obtain ⟨x, hx⟩ : ∃ x, l[k]? = some x := ⟨_, List.getElem?_eq_getElem hlt⟩
        obtain ⟨b, o, rfl, hbl, c0, c1, c2, c3⟩ := hat.out k x hx
        obtain ⟨EA, ec, hev⟩ := hel.out x (List.mem_of_getElem? hx)
        have k2 := cell_later hX c2
        have hbr : b < wr.heap.size := block_lt_of_cell k2
        haveI : In b wr := ⟨hbr⟩
        have hnx := hide (show y + min x.2.2.length 61 = l.length + ((l.take (k + 1)).map fun p => min p.2.2.length 61).sum by
          rw [hy.out, take_snoc hx]; simp; omega)
        obtain ⟨⟨xa, xb, xc⟩, xv, xl⟩ := x
        simp only at k2 hev hnx
        subst hev
        clear c0 c1 c2 c3 hat hx hel hy
        by_cases hm : (xl.length : Int) ≤ 61
        · rw [Nat.min_eq_left (by omega)] at hnx
          go_wp2_with fail
          go_roundg (l.length - (k + 1))
          case measure => omega
          case rel => exact ⟨k + 1, y + xl.length, by first | go_num | (simp [Int.min_eq_left hm]) | (simp [hm]), by go_num, by omega, hnx, hX⟩
        · rw [Nat.min_eq_right (by omega)] at hnx
          go_wp2_with fail
          go_roundg (l.length - (k + 1))
          case measure => omega
          case rel => exact ⟨k + 1, y + 61, by first | go_num | (simp [Int.min_eq_right (show (61 : Int) ≤ xl.length by omega)]) | (simp [hm]), by go_num, by omega, hnx, hX⟩
      · have d2 : decide ((y : Int) ≤ 60) = false := decide_eq_false (by omega)
        have hyI : ¬ (y : Int) ≤ 60 := by omega
        have hRz : Hid (R = false) := by
          show _ = _
          rw [hR.out]
          have := sum_pre (fun p => min p.2.2.length 61) l k
          have h2 := hy.out
          exact decide_eq_false (by unfold szN; omega)
        clear hy hat hel
        go_wp2_with fail
        go_returns
        exact ⟨by rw [hRz.out]; first | rfl | simp [hyI], hX.trans (by first | exact Ext.refl _ | exact (Ext.refl _).drew | exact (Ext.refl _).drewN _)⟩
    · have hge : (l.length : Int) ≤ k := by omega
      have d1 : decide ((k : Int) < l.length) = false := decide_eq_false (by omega)
      have hRz : Hid (R = decide ((y : Int) ≤ 60)) := by
        show _ = _
        rw [hR.out]
        have h2 := hy.out
        rw [List.take_of_length_le (by omega)] at h2
        unfold szN
        rw [← h2]
        exact decide_eq_decide.2 (by omega)
      clear hy hat hel
      by_cases hy6 : (y : Int) ≤ 60
      · have d2 : decide ((y : Int) ≤ 60) = true := decide_eq_true hy6
        rw [d2] at hRz
        go_wp2_with fail
        go_returns
        exact ⟨by rw [hRz.out]; first | rfl | simp [hy6], hX.trans (by first | exact Ext.refl _ | exact (Ext.refl _).drew | exact (Ext.refl _).drewN _)⟩
      · have d2 : decide ((y : Int) ≤ 60) = false := decide_eq_false hy6
        rw [d2] at hRz
        go_wp2_with fail
        go_returns
        exact ⟨by rw [hRz.out]; first | rfl | simp [hy6], hX.trans (by first | exact Ext.refl _ | exact (Ext.refl _).drew | exact (Ext.refl _).drewN _)⟩
theorem mt_form {w : World} {S : List Nat} {v : Value} {H : List (Value × List Ve)} (h : Mt w S v H) : ∃ A cap, v = .slice A H.length cap ∧ H.length ≤ cap ∧ cap ≤ maxLen ∧ ∀ (i : Nat) (p : Value × List Ve), H[i]? = some p → ∃ b o, A = some ⟨b, o, none⟩ ∧ b ∉ S ∧ b < w.heap.size ∧ w.cell? ⟨b, o + i, none⟩ = some p.1 := by
  obtain ⟨⟨A, cap, rfl, h1, h2, h3, h4⟩, -⟩ := h
  refine ⟨A, cap, rfl, h1, h2, fun i p hp => ?_⟩
  have hg : (H.map (·.1))[i]? = some p.1 := by rw [List.getElem?_map, hp]; rfl
  rcases h4 with h4 | ⟨b, o, rfl, hb, hc⟩
  · rw [h4] at hg; cases hg
  · have c0 := hc _ _ hg
    exact ⟨b, o, rfl, hb, block_lt_of_cell c0, c0⟩
set_option maxHeartbeats 8000000 in
set_option maxRecDepth 100000 in
theorem alAlike_c (H K : List (Value × List Ve)) (v u : Value) (w : World) (hv : Mt w [] v H) (hu : Mt w [] u K) (he : H.map (fun p => eds p.2) = K.map (fun p => eds p.2)) : Calls Tryz.prog 16 #[v, u] w fun e w' => e = .returned (.bool true) ∧ Ext w w' := by
  obtain ⟨A, cap, rfl, hlc, hlm, hat⟩ := mt_form hv
  obtain ⟨B, cap2, rfl, hmc, hmm, hbt⟩ := mt_form hu
  unfold maxLen at hlm hmm
  have hrl := hide hv.2
  have hrm := hide hu.2
  have hlen : K.length = H.length := by have := congrArg List.length he; simpa using this.symm
  replace hat := hide hat
  replace hbt := hide hbt
  replace he := hide he
  rw [hlen] at hmc ⊢
  obtain ⟨n, hn⟩ : ∃ n, n = H.length := ⟨_, rfl⟩
  rw [← hn] at hlc hmc ⊢
  rw [← hn] at hlen
  replace hlen := hide hlen
  replace hn := hide hn
  clear hv hu
  go_enter Tryz.func16, Tryz.ntmps16
  go_wp2_with fail
  go_loopg [5] n (fun gh i wr => ∃ (k : Nat), i = .int .i64 k ∧ k + gh = n ∧ Ext w wr)
  case atStart => exact ⟨0, rfl, by omega, Ext.refl w⟩
  case round =>
    obtain ⟨k, rfl, hk, hX⟩ := hrel
    by_cases hlt : k < n
    · have hkI : (k : Int) < n := by omega
      have d1 : decide ((k : Int) < n) = true := decide_eq_true hkI
      obtain ⟨x, hx⟩ : ∃ x, H[k]? = some x := ⟨_, List.getElem?_eq_getElem (by have := hn.out; omega)⟩
      obtain ⟨y, hy⟩ : ∃ y, K[k]? = some y := ⟨_, List.getElem?_eq_getElem (by have := hlen.out; omega)⟩
      obtain ⟨b, o, rfl, -, hb, c0⟩ := hat.out k x hx
      obtain ⟨b', o', rfl, -, hb', c1⟩ := hbt.out k y hy
      have k0 := cell_later hX c0
      have j0 := cell_later hX c1
      have hbr : b < wr.heap.size := block_lt_of_cell k0
      have hbr' : b' < wr.heap.size := block_lt_of_cell j0
      haveI : In b wr := ⟨hbr⟩
      haveI : In b' wr := ⟨hbr'⟩
      have hex := (hrl.out x (List.mem_of_getElem? hx)).ext hX
      have hey := (hrm.out y (List.mem_of_getElem? hy)).ext hX
      have heq : eds x.2 = eds y.2 := by
        have h2 := congrArg (fun l => l[k]?) he.out
        simp only [List.getElem?_map, hx, hy, Option.map_some] at h2
        exact Option.some.inj h2
      have hq := hide (fun w' (hXw : Ext wr w') => refEdgeSame_c (hex.ext hXw) (hey.ext hXw))
      rw [decide_eq_true heq] at hq
      obtain ⟨XA, xcap, hxe⟩ := ew_one hex
      obtain ⟨YA, ycap, hye⟩ := ew_one hey
      obtain ⟨xv, xl⟩ := x
      obtain ⟨yv, yl⟩ := y
      simp only at k0 j0 hxe hye hq
      subst hxe
      subst hye
      clear c0 c1 hat hbt hx hy hrl hrm hex hey heq he
      go_wp2_with fail
      refine wp_region_gw (by kernel_rfl) (by kernel_rfl) ?_
      repeat (go_big_quiet_step ((go_at_call 21; with_reducible exact quiet_gw (hq.out _ (GW.grown _)))))
      refine wpQuiet_nil ?_
      intro g
      go_wp2_with fail
      go_roundg (n - (k + 1))
      case measure => omega
      case rel => exact ⟨k + 1, by go_num, by omega, hX.trans g.grown⟩
    · have hge : (n : Int) ≤ k := by omega
      have d1 : decide ((k : Int) < n) = false := decide_eq_false (by omega)
      go_wp2_with fail
      go_returns
      exact ⟨rfl, hX⟩
end Go.Proofs.YtjmoifbajjemmaaGreat
