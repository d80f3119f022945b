/-
  A helper of ours: no claim of its own. As XReg, where some operations also turn objects: what is known of the objects hangs on which of those operations are done.
-/
import Derived.Test.YtobmjcehgpmfgaaGreatArgI
import Derived.Test.YtobmjcehgpmfgaaGreatEdgB
set_option linter.unusedVariables false
set_option linter.unusedSimpArgs false
namespace Go.Proofs.YtobmjcehgpmfgaaGreat
open Go.RowKit Go.Deep Go.ChangeShapes
attribute [local go_sem] GW.cell GW.frozen In.eq_true In.le_true In.ne In.ne' In.ne_add In.ne_add' In.lt_add Upto.le_true Upto.le_add Upto.lt_add
theorem ew_oneB {w : World} {S : List Nat} {v : Value} {L : List Ve} (h : Ew w S v L) : ∃ A cap, v = .slice A L.length cap := by obtain ⟨A, cap, e, _⟩ := ew_form h; exact ⟨A, cap, e⟩
/-- A step of a script: its kind and tick; the slice of its edges, and the edges. -/
abbrev Op3b := (Int × Int) × Value × List Ve
def oc3b1 (p : Op3b) : List Value := [.int .i64 p.1.1, p.2.1, .int .i64 p.1.2]
def oc3b (L : List Op3b) : List Value := L.flatMap oc3b1
theorem oc3b_length (L : List Op3b) : (oc3b L).length = L.length * 3 := by
  induction L with
  | nil => rfl
  | cons p r ih => simp only [oc3b, oc3b1, List.flatMap_cons, List.length_append, List.length_cons, List.length_nil] at ih ⊢; omega
theorem oc3b_get : ∀ (L : List Op3b) (i : Nat) (p : Op3b), L[i]? = some p → ∀ j v, (oc3b1 p)[j]? = some v → (oc3b L)[i * 3 + j]? = some v
  | q :: r, 0, p, h, j, v, hv => by
    simp at h; subst h
    have hj : j < (oc3b1 q).length := (List.getElem?_eq_some_iff.1 hv).1
    rw [show oc3b (q :: r) = oc3b1 q ++ oc3b r by simp [oc3b], List.getElem?_append_left (by omega), show 0 * 3 + j = j by omega]; exact hv
  | q :: r, i + 1, p, h, j, v, hv => by
    have := oc3b_get r i p (by simpa using h) j v hv
    rw [show oc3b (q :: r) = oc3b1 q ++ oc3b r by simp [oc3b], show (i + 1) * 3 + j = (oc3b1 q).length + (i * 3 + j) by simp [oc3b1]; omega, List.getElem?_append_right (by omega), Nat.add_sub_cancel_left]
    exact this
theorem oc3b_at (L : List Op3b) (j : Nat) (u : Value) (h : (oc3b L)[j]? = some u) : ∃ i q k, L[i]? = some q ∧ j = i * 3 + k ∧ (oc3b1 q)[k]? = some u := by
  have hj : j < L.length * 3 := by
    rcases Nat.lt_or_ge j (L.length * 3) with h1 | h1
    · exact h1
    · rw [List.getElem?_eq_none (by rw [oc3b_length]; exact h1)] at h; cases h
  have hi : j / 3 < L.length := by omega
  refine ⟨j / 3, L[j / 3], j % 3, List.getElem?_eq_getElem hi, by omega, ?_⟩
  have hk : j % 3 < (oc3b1 L[j / 3]).length := by simp [oc3b1]; omega
  have := oc3b_get L (j / 3) _ (List.getElem?_eq_getElem hi) (j % 3) _ (List.getElem?_eq_getElem hk)
  rw [show j / 3 * 3 + j % 3 = j by omega, h] at this
  rw [List.getElem?_eq_getElem hk]
  exact this.symm
def Ozb (w : World) (v : Value) (L : List Op3b) : Prop := Sl w [] 3 v L.length (oc3b L) ∧ ∀ p ∈ L, (Ew w [] p.2.1 p.2.2 ∧ ∀ e ∈ eds p.2.2, ∀ y ∈ e.1, inI y.2.1)
theorem ozb_form {w : World} {v : Value} {L : List Op3b} (h : Ozb w v L) : ∃ A cap, v = .slice A L.length cap ∧ L.length ≤ cap ∧ cap ≤ maxLen ∧
    ∀ (i : Nat) (p : Op3b), L[i]? = some p → ∃ b o, A = some ⟨b, o, none⟩ ∧ b < w.heap.size ∧ w.cell? ⟨b, o + i * 3, none⟩ = some (.int .i64 p.1.1) ∧ w.cell? ⟨b, o + i * 3 + 1, none⟩ = some p.2.1 ∧ w.cell? ⟨b, o + i * 3 + 2, none⟩ = some (.int .i64 p.1.2) := by
  obtain ⟨⟨A, cap, rfl, h1, h2, h3, h4⟩, -⟩ := h
  refine ⟨A, cap, rfl, h1, h2, fun i p hp => ?_⟩
  have hg := oc3b_get L i p hp
  rcases h4 with h4 | ⟨b, o, rfl, hb, hc⟩
  · have := hg 0 _ rfl; rw [h4] at this; cases this
  · have c0 := hc _ _ (hg 0 _ rfl)
    have c1 := hc _ _ (hg 1 _ rfl)
    have c2 := hc _ _ (hg 2 _ rfl)
    exact ⟨b, o, rfl, block_lt_of_cell c0, c0, c1, c2⟩
section
variable {H : Type} {enc : TypeId × Value → H} {P : Program} {w : World} {base fuel : Nat} {held : Bool}
theorem open_opsB {t eo e r : TypeId} {b0 b1 b2 f0 f1 f2 g0 g1 g2 : Field} {v : Value} {x : DataW H × List MemPlace} (ht : P.underlying t = some (.slice eo)) (he0 : P.underlying eo = some (.struct #[b0, b1, b2]))
    (ce0 : P.cellsOf eo = 3) (o0' : b0.offset = 0) (o1' : b1.offset = 1) (o2' : b2.offset = 2) (c0' : P.cellsOf b0.type = 1) (c1' : P.cellsOf b1.type = 1) (c2' : P.cellsOf b2.type = 1)
    (u0' : P.underlying b0.type = some (.int .i64)) (u2' : P.underlying b2.type = some (.int .i64))
    (hte : P.underlying b1.type = some (.slice e)) (he : P.underlying e = some (.struct #[f0, f1, f2]))
    (ce : P.cellsOf e = 3) (o0 : f0.offset = 0) (o1 : f1.offset = 1) (o2 : f2.offset = 2) (c0 : P.cellsOf f0.type = 1) (c1 : P.cellsOf f1.type = 1) (c2 : P.cellsOf f2.type = 1)
    (u0 : P.underlying f0.type = some (.slice r)) (u1 : P.underlying f1.type = some (.int .i64)) (u2 : P.underlying f2.type = some (.int .i64))
    (hr : P.underlying r = some (.struct #[g0, g1, g2])) (cr : P.cellsOf r = 3) (p0 : g0.offset = 0) (p1 : g1.offset = 1) (p2 : g2.offset = 2) (d0 : P.cellsOf g0.type = 1) (d1 : P.cellsOf g1.type = 1) (d2 : P.cellsOf g2.type = 1)
    (y0 : P.underlying g0.type = some (.int .i64)) (y1 : P.underlying g1.type = some (.int .i64)) (y2 : P.underlying g2.type = some .string)
    (h : DataW.trod enc P w base (fun _ => true) held fuel t [v] = some x) : ∃ L : List Op3b, L.length = sliceLen x.1 ∧ Ozb w v L := by
  rcases open_slice ht h with ⟨h1, rfl⟩ | ⟨a, len, cap, m, n, D, Pl, h1, _, hl, hm, hmm, rfl, hel⟩
  · obtain rfl : v = .slice none 0 0 := by simpa using h1
    exact ⟨[], rfl, Sl.nil _ _ _, by simp⟩
  · obtain rfl : v = .slice (some a) len cap := by simpa using h1
    simp only [if_true] at hmm
    have each : ∀ i, i < len → ∃ p : Op3b, (∀ k u, (oc3b1 p)[k]? = some u → w.cell? ((a.add (i * 3)).add k) = some u) ∧ (Ew w [] p.2.1 p.2.2 ∧ ∀ e ∈ eds p.2.2, ∀ y ∈ e.1, inI y.2.1) := by
      intro i hi
      obtain ⟨cs, hc, htr⟩ := hel i (by omega)
      rw [ce0] at hc
      obtain ⟨_, hlen, hat⟩ := World.cells?_some hc
      obtain ⟨xs, k, _, _, _, hxl, hf⟩ := DataW.trod_struct he0 htr
      match cs, hlen with
      | [w0, w1, w2], _ =>
        match xs, hxl with
        | [z0, z1, z2], _ =>
          have q0 := hf 0 b0 rfl
          have q1 := hf 1 b1 rfl
          have q2 := hf 2 b2 rfl
          rw [o0', c0'] at q0
          rw [o1', c1'] at q1
          rw [o2', c2'] at q2
          obtain ⟨a0, e0, _, _⟩ := DataW.trod_int u0' (show DataW.trod enc P w base (fun _ => true) held k b0.type [w0] = some _ from by simpa using q0)
          obtain ⟨a2, e2, _, _⟩ := DataW.trod_int u2' q2
          obtain ⟨L, _, hL⟩ := open_edgesI hte he ce o0 o1 o2 c0 c1 c2 u0 u1 u2 hr cr p0 p1 p2 d0 d1 d2 y0 y1 y2 (show DataW.trod enc P w base (fun _ => true) held k b1.type [w1] = some _ from by simpa using q1)
          simp at e0 e2
          subst e0; subst e2
          refine ⟨((a0, a2), w1, L), fun k u hu => ?_, hL⟩
          have hk : k < 3 := by simpa [oc3b1] using (List.getElem?_eq_some_iff.1 hu).1
          rw [hat k hk]
          exact hu
    obtain ⟨p, hp⟩ := choose_lt (α := Op3b) (p := fun i p => (∀ k u, (oc3b1 p)[k]? = some u → w.cell? ((a.add (i * 3)).add k) = some u) ∧ (Ew w [] p.2.1 p.2.2 ∧ ∀ e ∈ eds p.2.2, ∀ y ∈ e.1, inI y.2.1)) each
    refine ⟨(List.range len).map p, by simp [sliceLen], ⟨some a, cap, by simp, by simpa using hl, hm, by rw [oc3b_length], ?_⟩, ?_⟩
    · by_cases h0 : len = 0
      · left; subst h0; rfl
      right
      have hz := (hp 0 (by omega)).1 0 _ rfl
      obtain ⟨b, o, rfl⟩ := addr_plain (i := 0) (a := a) (by
        have e0 : (a.add (0 * 3)).add 0 = a.add 0 := by rw [Nat.zero_mul]; exact (show (a.add 0).add 0 = a.add (0 + 0) from Go.Deep.add_add ..)
        rw [e0] at hz; exact hz) rfl
      refine ⟨b, o, rfl, by simp, fun j u hu => ?_⟩
      obtain ⟨i, q, k, hq, rfl, hk⟩ := oc3b_at _ j u hu
      have hi : i < len := by
        rcases Nat.lt_or_ge i len with h | h
        · exact h
        · rw [List.getElem?_eq_none (by simpa using h)] at hq; cases hq
      have hq' : q = p i := by simpa [hi] using hq.symm
      subst hq'
      have := (hp i hi).1 k u hk
      rw [add_plain, add_plain, Nat.add_assoc] at this
      exact this
    · intro q hq
      obtain ⟨i, hi, rfl⟩ := List.mem_map.1 hq
      exact (hp i (List.mem_range.1 hi)).2
end
/-- How many steps and edges a script has, as far as it counts. -/
def szB (l : List Op3b) : Nat := l.length + (l.map fun p => min p.2.2.length 61).sum
theorem sum_preB (f : Op3b → Nat) (l : List Op3b) : ∀ k, ((l.take k).map f).sum ≤ (l.map f).sum := by
  induction l with
  | nil => intro k; simp
  | cons p r ih =>
    intro k
    cases k with
    | zero => simp
    | succ k => have := ih k; simp only [List.take_succ_cons, List.map_cons, List.sum_cons]; omega
set_option maxHeartbeats 4000000 in
set_option maxRecDepth 100000 in
theorem bagSmall_c (l : List Op3b) (v : Value) (w : World) (h : Ozb w v l) : Calls Tryz.prog 13 #[v] w fun e w' => e = .returned (.bool (decide (szB l ≤ 60))) ∧ Ext w w' := by
  have hel := hide (fun p (hp : p ∈ l) => ew_oneB (h.2 p hp).1)
  obtain ⟨A, cap, rfl, hlc, hlm, hat⟩ := ozb_form h
  unfold maxLen at hlm
  replace hat := hide hat
  clear h
  obtain ⟨R, hR⟩ : ∃ R, R = decide (szB l ≤ 60) := ⟨_, rfl⟩
  rw [← hR]
  replace hR := hide hR
  go_enter Tryz.func13, Tryz.ntmps13
  go_wp2_with fail
  go_loopg [3, 4] l.length (fun gh z i wr => ∃ (k y : Nat), z = .int .i64 y ∧ i = .int .i64 k ∧ k + gh = l.length ∧ Hid (y = l.length + ((l.take k).map fun p => min p.2.2.length 61).sum) ∧ Ext w wr)
  case atStart => exact ⟨0, l.length, rfl, rfl, by omega, (by show _ = _; simp), Ext.refl w⟩
  case round =>
    obtain ⟨k, y, rfl, rfl, hk, hy, hX⟩ := hrel
    by_cases hlt : k < l.length
    · have hkI : (k : Int) < l.length := by omega
      have d1 : decide ((k : Int) < l.length) = true := decide_eq_true hkI
      by_cases hy6 : y ≤ 60
      · have d2 : decide ((y : Int) ≤ 60) = true := decide_eq_true (by omega)
        have hyI : (y : Int) ≤ 60 := by omega
        obtain ⟨x, hx⟩ : ∃ x, l[k]? = some x := ⟨_, List.getElem?_eq_getElem hlt⟩
        obtain ⟨b, o, rfl, hbl, c0, c1, c2⟩ := hat.out k x hx
        obtain ⟨EA, ec, hev⟩ := hel.out x (List.mem_of_getElem? hx)
        have k2 := cell_later hX c1
        have hbr : b < wr.heap.size := block_lt_of_cell k2
        haveI : In b wr := ⟨hbr⟩
        have hnx := hide (show y + min x.2.2.length 61 = l.length + ((l.take (k + 1)).map fun p => min p.2.2.length 61).sum by
          rw [hy.out, take_snoc hx]; simp; omega)
        obtain ⟨⟨xa, xc⟩, xv, xl⟩ := x
        simp only at k2 hev hnx
        subst hev
        clear c0 c1 c2 hat hx hel hy
        by_cases hm : (xl.length : Int) ≤ 61
        · rw [Nat.min_eq_left (by omega)] at hnx
          go_wp2_with fail
          go_roundg (l.length - (k + 1))
          case measure => omega
          case rel => exact ⟨k + 1, y + xl.length, by first | go_num | (simp [Int.min_eq_left hm]) | (simp [hm]), by go_num, by omega, hnx, hX⟩
        · rw [Nat.min_eq_right (by omega)] at hnx
          go_wp2_with fail
          go_roundg (l.length - (k + 1))
          case measure => omega
          case rel => exact ⟨k + 1, y + 61, by first | go_num | (simp [Int.min_eq_right (show (61 : Int) ≤ xl.length by omega)]) | (simp [hm]), by go_num, by omega, hnx, hX⟩
      · have d2 : decide ((y : Int) ≤ 60) = false := decide_eq_false (by omega)
        have hyI : ¬ (y : Int) ≤ 60 := by omega
        have hRz : Hid (R = false) := by
          show _ = _
          rw [hR.out]
          have := sum_preB (fun p => min p.2.2.length 61) l k
          have h2 := hy.out
          exact decide_eq_false (by unfold szB; omega)
        clear hy hat hel
        go_wp2_with fail
        go_returns
        exact ⟨by rw [hRz.out]; first | rfl | simp [hyI], hX.trans (by first | exact Ext.refl _ | exact (Ext.refl _).drew | exact (Ext.refl _).drewN _)⟩
    · have hge : (l.length : Int) ≤ k := by omega
      have d1 : decide ((k : Int) < l.length) = false := decide_eq_false (by omega)
      have hRz : Hid (R = decide ((y : Int) ≤ 60)) := by
        show _ = _
        rw [hR.out]
        have h2 := hy.out
        rw [List.take_of_length_le (by omega)] at h2
        unfold szB
        rw [← h2]
        exact decide_eq_decide.2 (by omega)
      clear hy hat hel
      by_cases hy6 : (y : Int) ≤ 60
      · have d2 : decide ((y : Int) ≤ 60) = true := decide_eq_true hy6
        rw [d2] at hRz
        go_wp2_with fail
        go_returns
        exact ⟨by rw [hRz.out]; first | rfl | simp [hy6], hX.trans (by first | exact Ext.refl _ | exact (Ext.refl _).drew | exact (Ext.refl _).drewN _)⟩
      · have d2 : decide ((y : Int) ≤ 60) = false := decide_eq_false hy6
        rw [d2] at hRz
        go_wp2_with fail
        go_returns
        exact ⟨by rw [hRz.out]; first | rfl | simp [hy6], hX.trans (by first | exact Ext.refl _ | exact (Ext.refl _).drew | exact (Ext.refl _).drewN _)⟩
end Go.Proofs.YtobmjcehgpmfgaaGreat
set_option linter.unusedVariables false
set_option linter.unusedSimpArgs false
namespace Go.Proofs.YtobmjcehgpmfgaaGreat
open Go.RowKit

section
variable {P : Program} {ops : Array Oper} {Φ : Nat → Value → World → Prop} {Q : Exit → Act → World → Prop} {a : Act} {W : World} {G : World → World → Prop} {J : (Nat → Bool) → World → Prop} {K : List Nat}

def done (Lf : Nat → Bool) (i : Nat) : Nat → Bool := fun j => if j = i then true else Lf j
structure RAt2 (ops : Array Oper) (Φ : Nat → Value → World → Prop) (G : World → World → Prop) (J : (Nat → Bool) → World → Prop) (a : Act) (W : World) (i : Nat) (Lf : Nat → Bool) (b : Act) (w : World) : Prop where
  ext : G W w
  defers : b.defers = a.defers
  size : b.tmps.size = a.tmps.size
  else_ : ∀ t, t ∉ dstsOf ops → b.tmps.getD t undef = a.tmps.getD t undef
  dep : ∀ j o d, depB ops i j = true → ops[j]? = some o → o.dst = some d → Φ j (b.tmps.getD d undef) w
  deps : ∀ j, depB ops i j = true → Lf j = true
  fresh : Lf i = false
  obj : J Lf w
/-- An operation that turns an object. -/
def RGoodM (P : Program) (ops : Array Oper) (Φ : Nat → Value → World → Prop) (G : World → World → Prop) (J : (Nat → Bool) → World → Prop) (Q : Exit → Act → World → Prop) (i : Nat) (o : Oper) (Lf : Nat → Bool) (b : Act) (w : World) : Prop :=
  (Region.wanted o (yielded ops b.tmps) = true ∧ o.wp P b w (fun b' w' => ∃ v, b' = b.put o.dst v ∧ Φ i v w' ∧ G w w' ∧ J (done Lf i) w') Q) ∨ (Region.wanted o (yielded ops b.tmps) = false ∧ Φ i undef w ∧ J (done Lf i) w)

structure RInv2 (ops : Array Oper) (Φ : Nat → Value → World → Prop) (G : World → World → Prop) (J : (Nat → Bool) → World → Prop) (a : Act) (W : World) (listed : Array Bool) (b : Act) (w : World) : Prop where
  ext : G W w
  defers : b.defers = a.defers
  size : b.tmps.size = a.tmps.size
  len : listed.size = ops.size
  else_ : ∀ t, t ∉ dstsOf ops → b.tmps.getD t undef = a.tmps.getD t undef
  fact : ∀ j o d, ops[j]? = some o → listed.getD j false = true → o.dst = some d → Φ j (b.tmps.getD d undef) w
  obj : J (fun j => listed.getD j false) w

theorem wpAny_facts2 (hA : acycB ops = true) (hD : dstsB ops a.tmps.size = true) (hGt : ∀ x y z, G x y → G y z → G x z) (hst : ∀ i v w w', Φ i v w → G w w' → Φ i v w')
    (hstep : ∀ i o, ops[i]? = some o → ∀ b w Lf, RAt2 ops Φ G J a W i Lf b w → RGoodM P ops Φ G J Q i o Lf b w)
    (hend : ∀ b w, G W w → b.defers = a.defers → b.tmps.size = a.tmps.size → (∀ t, t ∉ dstsOf ops → b.tmps.getD t undef = a.tmps.getD t undef) →
      (∀ j o d, ops[j]? = some o → o.dst = some d → Φ j (b.tmps.getD d undef) w) → (∀ Lf, (∀ j, j < ops.size → Lf j = true) → (∀ j, ops.size ≤ j → Lf j = false) → J Lf w) → Q .normal b w) :
    ∀ (f : Nat) (listed : Array Bool) (b : Act) (w : World), RInv2 ops Φ G J a W listed b w → cntF listed.toList ≤ f → wpAny P .any ops Q f listed b w := by
  have fin : ∀ (listed : Array Bool) (b : Act) (w : World), RInv2 ops Φ G J a W listed b w → (∀ j, j < ops.size → listed.getD j false = true) → Q .normal b w := by
    intro listed b w I hl
    refine hend b w I.ext I.defers I.size I.else_ (fun j o d ho hd => I.fact j o d ho (hl j (Array.getElem?_eq_some_iff.1 ho).1) hd) fun Lf h1 h2 => ?_
    have e : Lf = fun j => listed.getD j false := by
      funext j
      rcases Nat.lt_or_ge j ops.size with h | h
      · rw [h1 j h, hl j h]
      · rw [h2 j h]; have := I.len; simp [Array.getD, show ¬ j < listed.size by omega]
    rw [e]; exact I.obj
  intro f
  induction f with
  | zero =>
    intro listed b w I hc
    have hl : ∀ j, j < ops.size → listed.getD j false = true := fun j hj => cntF_zero listed.toList j _ (by omega) (by simpa using getD_some (by have := I.len; omega))
    refine ⟨?_, fin _ _ _ I hl⟩
    cases hr : Region.ready .any ops listed with
    | nil => rfl
    | cons j r =>
      have := (mem_ready.1 (show j ∈ Region.ready .any ops listed by rw [hr]; simp))
      obtain ⟨h1, o, ho, _⟩ := this
      have hj := (Array.getElem?_eq_some_iff.1 ho).1
      have h2 := hl j hj
      have hjl : j < listed.size := by have := I.len; omega
      have e1 := getD_some (l := listed) (d := false) hjl
      have e2 := getD_some (l := listed) (d := true) hjl
      rw [e1] at e2; have := Option.some.inj e2; rw [h1, h2] at this; cases this
  | succ f ih =>
    intro listed b w I hc
    refine ⟨fun hr => fin _ _ _ I (all_listed hA I.len hr), fun i hi => ?_⟩
    obtain ⟨h1, o, ho, hdep⟩ := mem_ready.1 hi
    have hj := (Array.getElem?_eq_some_iff.1 ho).1
    have hjl : i < listed.size := by have := I.len; omega
    have hdl : ∀ j, depB ops i j = true → listed.getD j false = true := by
      intro j hd
      unfold depB at hd; rw [ho] at hd
      obtain ⟨k, hk, he⟩ := Array.any_eq_true.1 hd
      simp only [Bool.and_eq_true, beq_iff_eq] at he
      have := hdep _ (Array.getElem_mem hk) he.1
      rwa [he.2] at this
    have e12 : listed.getD i false = false := by
      have e1 := getD_some (l := listed) (d := false) hjl
      have e2 := getD_some (l := listed) (d := true) hjl
      rw [e1] at e2; rw [Option.some.inj e2]; exact h1
    have hat : RAt2 ops Φ G J a W i (fun j => listed.getD j false) b w := ⟨I.ext, I.defers, I.size, I.else_, fun j p d hd hp hpd => I.fact j p d hp (hdl j hd) hpd, hdl, e12, I.obj⟩
    have hget : (listed.toList)[i]? = some false := by
      have e2 := getD_some (l := listed) (d := true) hjl
      rw [h1] at e2; simpa using e2
    have hcnt : cntF (listed.setIfInBounds i true).toList ≤ f := by
      have := cntF_set listed.toList i hget
      simp only [Array.toList_setIfInBounds]; omega
    have hset : (fun j => (listed.setIfInBounds i true).getD j false) = done (fun j => listed.getD j false) i := by
      funext j
      unfold done
      show (listed.setIfInBounds i true).getD j false = if j = i then true else listed.getD j false
      rw [Array.getD_eq_getD_getElem?, Array.getElem?_setIfInBounds]
      by_cases hij : i = j
      · subst hij; simp [hjl]
      · rw [if_neg hij, if_neg (Ne.symm hij), Array.getD_eq_getD_getElem?]
    have go : ∀ (v : Value) (w' : World), Φ i v w' → (G w w' ∨ w = w') → J (done (fun j => listed.getD j false) i) w' → wpAny P .any ops Q f (listed.setIfInBounds i true) (b.put o.dst v) w' := by
      intro v w' hv hx hJ
      have hG : G W w' := by
        rcases hx with hx | rfl
        · exact hGt _ _ _ I.ext hx
        · exact I.ext
      have hS : ∀ j u, Φ j u w → Φ j u w' := by
        intro j u hu
        rcases hx with hx | rfl
        · exact hst _ _ _ _ hu hx
        · exact hu
      refine ih _ _ _ ⟨hG, put_defers.trans I.defers, put_size.trans I.size, by simpa using I.len, fun t ht => ?_, fun j p d hp hl hd => ?_, by rw [hset]; exact hJ⟩ hcnt
      · rw [put_other, I.else_ t ht]
        intro e
        exact ht (List.mem_filterMap.2 ⟨o, by rw [Array.mem_toList_iff]; exact Array.mem_of_getElem? ho, e⟩)
      · have hds : d < b.tmps.size := by
          rw [I.size]
          have := List.all_eq_true.1 (Bool.and_eq_true_iff.1 hD).1 d (List.mem_filterMap.2 ⟨p, by rw [Array.mem_toList_iff]; exact Array.mem_of_getElem? hp, hd⟩)
          simpa using this
        by_cases hij : i = j
        · subst hij
          rw [ho] at hp; cases hp
          rw [hd, put_same hds]; exact hv
        · have hl' : listed.getD j false = true := by
            rw [Array.getD_eq_getD_getElem?, Array.getElem?_setIfInBounds, if_neg hij] at hl
            rw [Array.getD_eq_getD_getElem?]; exact hl
          have hpj := (Array.getElem?_eq_some_iff.1 hp).1
          have hne : o.dst ≠ some d := by
            intro e
            have h2 := List.all_eq_true.1 (List.all_eq_true.1 (Bool.and_eq_true_iff.1 hD).2 i (List.mem_range.2 hj)) j (List.mem_range.2 hpj)
            simp [hij, ho, hp, e, hd] at h2
          rw [put_other hne]
          exact hS _ _ (I.fact j p d hp hl' hd)
    unfold wpOp
    rcases hstep i o ho b w _ hat with ⟨hw, hwp⟩ | ⟨hw, hv, hJ⟩
    · simp only [ho, hw, if_true]
      left
      refine Oper.wp_mono ?_ hwp
      rintro b' w' ⟨v, rfl, hv, hx, hJ⟩
      exact go v w' hv (.inl hx) hJ
    · simp only [ho, hw]
      exact go undef w hv (.inr rfl) hJ

/-- An operation that turns no object. -/
theorem goodM_of {i : Nat} {o : Oper} {b : Act} {w : World} {Lf : Nat → Bool} (hGe : ∀ x y, Ext x y → G x y) (hJe : ∀ L x y, J L x → Ext x y → J L y) (hJk : ∀ L L' x, (∀ k, k ∈ K → L k = L' k) → J L x → J L' x)
    (hi : i ∉ K) (hJ : J Lf w) (h : RGood P ops Φ Q i o b w) : RGoodM P ops Φ G J Q i o Lf b w := by
  have key : ∀ x, J Lf x → J (done Lf i) x := fun x hx => hJk Lf _ x (fun k hk => by unfold done; rw [if_neg (fun e => by subst e; exact hi hk)]) hx
  rcases h with ⟨hw, hwp⟩ | ⟨hw, hv⟩
  · exact .inl ⟨hw, Oper.wp_mono (fun b' w' ⟨v, e, h1, h2⟩ => ⟨v, e, h1, hGe _ _ h2, key _ (hJe _ _ _ hJ h2)⟩) hwp⟩
  · exact .inr ⟨hw, hv, key _ hJ⟩

/-- Facts that stay where all but the blocks of S stay. -/
inductive FactS (S : List Nat) where
  | is (v : Value)
  | st (p : Value → World → Prop) (h : ∀ v w w', p v w → Fr S w w' → p v w')
  | any
def FactS.holds {S : List Nat} : FactS S → Value → World → Prop
  | .is u, v, _ => v = u
  | .st p _, v, w => p v w
  | .any, _, _ => True
theorem FactS.stays {S : List Nat} (f : FactS S) (v : Value) (w w' : World) (h : f.holds v w) (hx : Fr S w w') : f.holds v w' := by
  cases f with
  | is u => exact h
  | st p hp => exact hp v w w' h hx
  | any => trivial
def factsS {S : List Nat} (L : List (FactS S)) (i : Nat) (v : Value) (w : World) : Prop := (L.getD i .any).holds v w
def FactS.bytes (S : List Nat) (l : List UInt8) : FactS S := .st (fun v w => By w S v l) (fun _ _ _ h k => Sl.fr h k (fun _ hb => hb))

theorem wp_region_objs {id : Nat} {w : World} {S : List Nat} (L : List (FactS S)) (J : (Nat → Bool) → World → Prop) (K : List Nat) (hm : P.follows .mixedOrders = true) (hA : acycB ops = true) (hD : dstsB ops a.tmps.size = true)
    (hJe : ∀ L x y, J L x → Ext x y → J L y) (hJk : ∀ L L' x, (∀ k, k ∈ K → L k = L' k) → J L x → J L' x) (hJ0 : J (fun _ => false) w)
    (hstep : RSteps (fun k o => ∀ b w' Lf, RAt2 ops (factsS L) (Fr S) J a w k Lf b w' → (k ∉ K ∧ RGood P ops (factsS L) Q k o b w') ∨ RGoodM P ops (factsS L) (Fr S) J Q k o Lf b w') 0 ops.toList)
    (hend : ∀ b w', Fr S w w' → b.defers = a.defers → b.tmps.size = a.tmps.size → (∀ t, t ∉ dstsOf ops → b.tmps.getD t undef = a.tmps.getD t undef) →
      (∀ j o d, ops[j]? = some o → o.dst = some d → factsS L j (b.tmps.getD d undef) w') → (∀ Lf, (∀ j, j < ops.size → Lf j = true) → (∀ j, ops.size ≤ j → Lf j = false) → J Lf w') → Q .normal b w') : (Code.region id ops true).wp P Q a w := by
  refine wp_region_any hm (wpAny_facts2 (W := w) (G := Fr S) (J := J) (Φ := factsS L) hA hD (fun _ _ _ h k => h.trans k) (fun i v w w' h hx => FactS.stays _ v w w' h hx) (fun i o ho b w' Lf h => ?_) hend _ _ _ _ ⟨(Fr.refl S w).drew, rfl, rfl, by simp, fun _ _ => rfl, fun j o d ho hl _ => ?_, ?_⟩ (by rw [Array.toList_replicate, cntF_rep]; exact Nat.le_refl _))
  · have := RSteps.get 0 ops.toList hstep i o (by simpa using ho) b w' Lf
    rw [Nat.zero_add] at this
    rcases this h with ⟨h1, h2⟩ | h2
    · exact goodM_of (K := K) (fun _ _ h => Fr.of_ext h) hJe hJk h1 h.obj h2
    · exact h2
  · rw [Array.getD_eq_getD_getElem?] at hl
    by_cases hj : j < ops.size <;> simp [hj] at hl
  · have e : (fun j => (Array.replicate ops.size false).getD j false) = fun _ => false := by
      funext j; rw [Array.getD_eq_getD_getElem?]
      by_cases hj : j < ops.size <;> simp [hj]
    rw [e]
    exact hJe _ _ _ hJ0 (Ext.refl w).drew

theorem goodM_call {i : Nat} {o : Oper} {b : Act} {w : World} {Lf : Nat → Bool} {f : FuncId} {xs : Array Operand} {ats : Array TypeId} (hg : Region.wanted o (yielded ops b.tmps) = true) (ho : o.op = .call { callee := .value (.func f), args := xs, argTypes := ats })
    (he : ∀ args w, (callFunc f args).run P w = .ok (.enter f args) w) (hc : Calls P f (xs.map b.eval) w fun e w' => ∃ v, e = .returned v ∧ Φ i v w' ∧ G w w' ∧ J (done Lf i) w') : RGoodM P ops Φ G J Q i o Lf b w := by
  refine .inl ⟨hg, ?_⟩
  unfold Oper.wp
  have : (execOp b.eval o).run P w = .ok (.enter f (xs.map b.eval)) w := by
    simp [execOp, ho, resolve, Act.eval, Deferred.ofValue, invoke, he, go_sem]
  rw [this]
  exact hc.mono fun e w' ⟨v, he, h1, h2, h3⟩ => by subst he; exact ⟨v, rfl, h1, h2, h3⟩
end
end Go.Proofs.YtobmjcehgpmfgaaGreat
