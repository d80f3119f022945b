/-
  A helper of ours: no claim of its own. Layer 9 (step): the other sign, and parts, by the code.
-/
import Derived.Test.YtljkneajdndgjabGreatMem
import Derived.Test.YtljkneajdndgjabGreatEdgS
import Derived.Test.YtljkneajdndgjabGreatRowD
import Derived.Test.YtljkneajdndgjabGreatStepA
import Derived.Test.YtljkneajdndgjabGreatReg3
import Derived.Test.YtljkneajdndgjabGreatStepC
import Derived.Test.YtljkneajdndgjabGreatReg
set_option linter.unusedVariables false
set_option linter.unusedSimpArgs false
namespace Go.Proofs.YtljkneajdndgjabGreat
open Go.RowKit
/-- What one's own block is, as a list. -/
abbrev ob (v : Value) : List Nat := v.ownBlock.toList
theorem own_fr {w w' : World} {base e size n : Nat} {v : Value} {xs : List Value} {S : List Nat} (h : w.ownsRow base e size v n xs) (k : Fr S w w') (hS : ∀ x ∈ S, x < base) : w'.ownsRow base e size v n xs := by
  refine ⟨h.1, ?_⟩
  rcases h.2 with h2 | ⟨g, cap, cur, rfl, hb, hg, hr⟩
  · exact .inl h2
  · exact .inr ⟨g, cap, cur, rfl, hb, (k.block g (lt_of_block hg) (fun m => by have := hS g m; omega)).trans hg, hr⟩
theorem ob_ge {w : World} {base e size n : Nat} {v : Value} {xs : List Value} (h : w.ownsRow base e size v n xs) : ∀ k ∈ ob v, base ≤ k ∧ k < w.heap.size := by
  intro k hk
  have hk' : v.ownBlock = some k := by simpa [ob] using hk
  rcases h.2 with ⟨rfl, _⟩ | ⟨g, cap, cur, rfl, hb, hg, _⟩
  · cases hk'
  · have : k = g := by simpa [Value.ownBlock] using hk'.symm
    subst this
    exact ⟨hb, lt_of_block hg⟩
theorem fr_grown {w w' : World} {v : Value} (h : w.grownBy w' v.ownBlock) : Fr (ob v) w w' :=
  (Fr.refl (ob v) w).grown h (fun k hk => .inl (by simp [ob, hk]))
end Go.Proofs.YtljkneajdndgjabGreat
set_option linter.unusedVariables false
set_option linter.unusedSimpArgs false
namespace Go.Proofs.YtljkneajdndgjabGreat
open Go.RowKit
attribute [local go_sem] GW.cell GW.frozen In.eq_true In.le_true In.ne In.ne' In.ne_add In.ne_add' In.lt_add Upto.le_true Upto.le_add Upto.lt_add
/-- An edge as it lies: its row's slice, and the edge. -/
abbrev Ve := Value × Ed
def ec1 (p : Ve) : List Value := [p.1, .int .i64 p.2.2.1, .int .i64 p.2.2.2]
def ec (L : List Ve) : List Value := L.flatMap ec1
theorem ec_length (L : List Ve) : (ec L).length = L.length * 3 := by
  induction L with
  | nil => rfl
  | cons p r ih => simp only [ec, ec1, List.flatMap_cons, List.length_append, List.length_cons, List.length_nil] at ih ⊢; omega
theorem ec_append (L M : List Ve) : ec (L ++ M) = ec L ++ ec M := by simp [ec]
theorem ec_cons (p : Ve) (L : List Ve) : ec (p :: L) = ec1 p ++ ec L := by simp [ec]
theorem ec_drop : ∀ (L : List Ve) (n : Nat), (ec L).drop (n * 3) = ec (L.drop n)
  | [], n => by simp [ec]
  | p :: L, 0 => by simp
  | p :: L, n + 1 => by
    rw [ec_cons, show (n + 1) * 3 = (ec1 p).length + n * 3 by simp [ec1]; omega, List.drop_append, List.drop_of_length_le (by omega), List.nil_append, Nat.add_sub_cancel_left, ec_drop L n, List.drop_succ_cons]
theorem ec_one {L : List Ve} (h : ∀ p ∈ L, p.1.oneCell' = true) : ∀ u ∈ ec L, u.oneCell' = true := by
  intro u hu
  simp only [ec, List.mem_flatMap, ec1] at hu
  obtain ⟨p, hp, hu⟩ := hu
  simp at hu
  rcases hu with rfl | rfl | rfl
  · exact h p hp
  · rfl
  · rfl
theorem ec_get : ∀ (L : List Ve) (i : Nat) (p : Ve), L[i]? = some p → ∀ j v, (ec1 p)[j]? = some v → (ec L)[i * 3 + j]? = some v
  | q :: r, 0, p, h, j, v, hv => by
    simp at h; subst h
    have hj : j < (ec1 q).length := (List.getElem?_eq_some_iff.1 hv).1
    rw [ec_cons, List.getElem?_append_left (by omega), show 0 * 3 + j = j by omega]; exact hv
  | q :: r, i + 1, p, h, j, v, hv => by
    have := ec_get r i p (by simpa using h) j v hv
    rw [ec_cons, show (i + 1) * 3 + j = (ec1 q).length + (i * 3 + j) by simp [ec1]; omega, List.getElem?_append_right (by omega), Nat.add_sub_cancel_left]
    exact this
abbrev eds (L : List Ve) : List Ed := L.map Prod.snd
/-- Edges, where they lie; neither they nor their rows lie in a block of S. -/
def Ew (w : World) (S : List Nat) (v : Value) (L : List Ve) : Prop := Sl w S 3 v L.length (ec L) ∧ ∀ p ∈ L, Rw w S p.1 p.2.1
section
variable {w w' : World} {S S' : List Nat} {v : Value} {L : List Ve}
theorem Ew.ext (h : Ew w S v L) (k : Ext w w') : Ew w' S v L := ⟨Sl.ext h.1 k, fun p hp => Sl.ext (h.2 p hp) k⟩
theorem Ew.fr (h : Ew w S v L) (k : Fr S' w w') (hs : ∀ b, b ∈ S' → b ∈ S) : Ew w' S v L := ⟨Sl.fr h.1 k hs, fun p hp => Sl.fr (h.2 p hp) k hs⟩
theorem Ew.less (h : Ew w S v L) (hs : ∀ b, b ∈ S' → b ∈ S) : Ew w S' v L := ⟨Sl.less h.1 hs, fun p hp => Sl.less (h.2 p hp) hs⟩
theorem row_one {r : List Vl} {u : Value} (h : Rw w S u r) : u.oneCell' = true := by obtain ⟨A, cap, rfl, _⟩ := h; rfl
theorem Ew.one (h : Ew w S v L) : ∀ u ∈ ec L, u.oneCell' = true := ec_one fun p hp => row_one (h.2 p hp)
theorem ew_form (h : Ew w S v L) : ∃ A cap, v = .slice A L.length cap ∧ L.length ≤ cap ∧ cap ≤ maxLen ∧
    ∀ (i : Nat) (p : Ve), L[i]? = some p → ∃ b o, A = some ⟨b, o, none⟩ ∧ b ∉ S ∧ b < w.heap.size ∧ w.cell? ⟨b, o + i * 3, none⟩ = some p.1 ∧ w.cell? ⟨b, o + i * 3 + 1, none⟩ = some (.int .i64 p.2.2.1) ∧ w.cell? ⟨b, o + i * 3 + 1 + 1, none⟩ = some (.int .i64 p.2.2.2) := by
  obtain ⟨A, cap, rfl, h1, h2, h3, h4⟩ := h.1
  refine ⟨A, cap, rfl, h1, h2, fun i p hp => ?_⟩
  have hg := ec_get L i p hp
  rcases h4 with h4 | ⟨b, o, rfl, hb, hc⟩
  · have := hg 0 _ rfl; rw [h4] at this; cases this
  · have c0 := hc _ _ (hg 0 _ rfl)
    have c1 := hc _ _ (hg 1 _ rfl)
    have c2 := hc _ _ (hg 2 _ rfl)
    exact ⟨b, o, rfl, hb, block_lt_of_cell c0, c0, c1, c2⟩
end
/-- An edge, by value. -/
abbrev em (v : Value) (x : Jp) : Value := .agg #[v, .int .i64 x.1, .int .i64 x.2]
theorem rw_val {w : World} {S : List Nat} {v : Value} {l : List Vl} (h : Rw w S v l) : ∃ A cap, v = .slice A l.length cap := by obtain ⟨A, cap, e, _⟩ := h; exact ⟨A, cap, e⟩
set_option maxHeartbeats 1000000 in
theorem hasNoRow_c (q : List Vl) (j : Jp) (v : Value) (w : World) (h : Rw w [] v q) : Calls Tryz.prog 63 #[em v j] w fun e w' => e = .returned (.bool (!mayR q)) ∧ Ext w w' := by
  obtain ⟨jp, jn⟩ := j
  have h1 := hide (fun w' (hX : Ext w w') => rowMay_c q v w' (Sl.ext h hX))
  obtain ⟨A, cap, rfl⟩ := rw_val h
  have hX0 := hide ((Ext.refl w).alloc (.cells #[.slice A q.length cap, .int .i64 jp, .int .i64 jn] 37))
  generalize mayR q = m at *
  clear h
  go_enter Tryz.func63, Tryz.ntmps63
  go_wp2_with (go_at_call 53; (with_reducible refine seq_gw (h1.out _ hX0.out) ?_); intro g)
  go_returns
  exact ⟨rfl, hX0.out.trans g.grown⟩
set_option maxHeartbeats 1000000 in
theorem byRow_c (q : List Vl) (j : Jp) (v : Value) (r : List Vl) (k : Jp) (u : Value) (w : World) (hq : Rw w [] v q) (hr : Rw w [] u r) : Calls Tryz.prog 65 #[em v j, em u k] w fun e w' => e = .returned (.int .i64 (cmpR q r)) ∧ Ext w w' := by
  obtain ⟨jp, jn⟩ := j
  obtain ⟨kp, kn⟩ := k
  have h1 := hide (fun w' (hX : Ext w w') => rowCompare_c (Sl.ext hq hX) (Sl.ext hr hX))
  obtain ⟨A, cap, rfl⟩ := rw_val hq
  obtain ⟨B, cap2, rfl⟩ := rw_val hr
  have hX0 := hide (((Ext.refl w).alloc (.cells #[.slice A q.length cap, .int .i64 jp, .int .i64 jn] 37)).alloc (.cells #[.slice B r.length cap2, .int .i64 kp, .int .i64 kn] 37))
  generalize cmpR q r = m at *
  clear hq hr
  go_enter Tryz.func65, Tryz.ntmps65
  go_wp2_with (go_at_call 112; (with_reducible refine seq_gw (h1.out _ hX0.out) ?_); intro g)
  go_returns
  exact ⟨rfl, hX0.out.trans g.grown⟩
end Go.Proofs.YtljkneajdndgjabGreat
set_option linter.unusedVariables false
set_option linter.unusedSimpArgs false
namespace Go.Proofs.YtljkneajdndgjabGreat
open Go.RowKit
attribute [local go_sem] GW.cell GW.frozen In.eq_true In.le_true In.ne In.ne' In.ne_add In.ne_add' In.lt_add Upto.le_true Upto.le_add Upto.lt_add
set_option maxHeartbeats 2000000 in
theorem indexERow_c (L : List Ve) (v : Value) (w : World) (h : Ew w [] v L) : Calls Tryz.prog 111 #[v, .func (.func 63) #[] #[]] w fun e w' => e = .returned (.int .i64 (idxP (fun x : Ve => mayR x.2.1) 0 L)) ∧ Ext w w' := by
  obtain ⟨A, cap, rfl, hl, hm, hat⟩ := ew_form h
  unfold maxLen at hm
  replace hat := hide hat
  have hrows := hide h.2
  clear h
  obtain ⟨R, hR⟩ : ∃ R, R = idxP (fun x : Ve => mayR x.2.1) 0 L := ⟨_, rfl⟩
  rw [← hR]
  replace hR := hide hR
  go_enter Tryz.func111, Tryz.ntmps111
  go_wp2_with fail
  go_loopg [8] L.length (fun gh i wr => ∃ (k : Nat), i = .int .i64 k ∧ k + gh = L.length ∧ Hid (R = idxP (fun x : Ve => mayR x.2.1) k (L.drop k)) ∧ Ext w wr)
  case atStart => exact ⟨0, rfl, by omega, by simpa using hR, Ext.refl w⟩
  case round =>
    obtain ⟨k, rfl, hk, hRk, hX⟩ := hrel
    clear hR
    by_cases hlt : k < L.length
    · obtain ⟨x, hx⟩ : ∃ x, L[k]? = some x := ⟨_, List.getElem?_eq_getElem hlt⟩
      obtain ⟨b, o, rfl, -, hb, c0, c1, c2⟩ := hat.out k x hx
      have k0 := cell_later hX c0
      have k1 := cell_later hX c1
      have k2 := cell_later hX c2
      have hbr : b < wr.heap.size := block_lt_of_cell k0
      have hrw := Sl.ext (hrows.out x (List.mem_of_getElem? hx)) hX
      have hR2 := hRk.out
      rw [drop_cons hx] at hR2
      obtain ⟨xv, xq, xa, xn⟩ := x
      simp only at k0 k1 k2 hrw
      have hin := hide (fun w' (hXw : Ext wr w') => hasNoRow_c xq (xa, xn) xv w' (Sl.ext hrw hXw))
      have hX00 := hide (Ext.refl wr)
      obtain ⟨XA, xcap, rfl⟩ := rw_val hrw
      clear c0 c1 c2 hat hx hrows hrw
      cases hmx : mayR xq
      · rw [hmx] at hin
        rw [idxP_no (p := (fun x : Ve => mayR x.2.1)) (x := (.slice XA xq.length xcap, xq, xa, xn)) hmx] at hR2
        replace hR2 := hide hR2
        replace hmx := hide hmx
        go_wp2_with (go_at_call 63; (with_reducible refine seq_gw (hin.out _ hX00.out) ?_); intro g)
        go_returns
        exact ⟨by rw [hR2.out]; rfl, hX.trans g.grown⟩
      · rw [hmx] at hin
        rw [idxP_yes (p := (fun x : Ve => mayR x.2.1)) (x := (.slice XA xq.length xcap, xq, xa, xn)) hmx] at hR2
        replace hR2 := hide hR2
        replace hmx := hide hmx
        go_wp2_with (go_at_call 63; (with_reducible refine seq_gw (hin.out _ hX00.out) ?_); intro g)
        go_roundg (L.length - (k + 1))
        case measure => omega
        case rel => exact ⟨k + 1, by go_num, by omega, hR2, hX.trans g.grown⟩
    · have hk' : k = L.length := by omega
      have hge : (L.length : Int) ≤ k := by omega
      have hR2 := hRk.out
      rw [hk', List.drop_length] at hR2
      replace hR2 := hide hR2
      replace hk' := hide hk'
      go_wp2_with fail
      go_returns
      exact ⟨by rw [hR2.out]; rfl, hX⟩
set_option maxHeartbeats 1000000 in
theorem containsERow_c (L : List Ve) (v : Value) (w : World) (h : Ew w [] v L) : Calls Tryz.prog 62 #[v, .func (.func 63) #[] #[]] w fun e w' => e = .returned (.bool (!L.all (fun x : Ve => mayR x.2.1))) ∧ Ext w w' := by
  have hc := hide (indexERow_c L v w h)
  have e := hide (idxP_ge (fun x : Ve => mayR x.2.1) 0 L)
  generalize idxP (fun x : Ve => mayR x.2.1) 0 L = z at *
  obtain ⟨A, cap, rfl, -, -, -⟩ := ew_form h
  clear h
  go_enter Tryz.func62, Tryz.ntmps62
  go_wp2_with (go_at_call 111; (with_reducible refine seq_gw hc.out ?_); intro g)
  go_returns
  exact ⟨by rw [← e.out]; first | rfl | simp, g.grown⟩
theorem rise_adj : ∀ {l : List Ed}, (∀ e ∈ l, mayR e.1 = true) → (∀ (i : Nat) (a b : Ed), l[i]? = some a → l[i + 1]? = some b → cmpT a.1 b.1 ≤ 0) → l.Pairwise fun a b => cmpT a.1 b.1 ≤ 0
  | [], _, _ => List.Pairwise.nil
  | [a], _, _ => by simp
  | a :: b :: l, hv, h => by
    have ih := rise_adj (l := b :: l) (fun e he => hv e (List.mem_cons_of_mem _ he)) (fun i x y hx hy => h (i + 1) x y (by simpa using hx) (by simpa using hy))
    have hab := h 0 a b rfl rfl
    rw [List.pairwise_cons]
    refine ⟨fun x hx => ?_, ih⟩
    rcases List.mem_cons.1 hx with rfl | hx
    · exact hab
    · have hbx := (List.pairwise_cons.1 ih).1 x hx
      have := cmpT_trans a.1 b.1 x.1 (mayR_iff.1 (hv a (by simp))).2 (mayR_iff.1 (hv b (by simp))).2 (mayR_iff.1 (hv x (by simp [hx]))).2 hab hbx
      omega
theorem riseB_true {l : List Ed} (hv : ∀ e ∈ l, mayR e.1 = true) (h : ∀ (i : Nat) (a b : Ed), l[i]? = some a → l[i + 1]? = some b → cmpT a.1 b.1 ≤ 0) : riseB l = true := by
  unfold riseB; rw [decide_eq_true_iff]; exact rise_adj hv h
theorem riseB_false {l : List Ed} {i : Nat} {a b : Ed} (ha : l[i]? = some a) (hb : l[i + 1]? = some b) (h : 0 < cmpT a.1 b.1) : riseB l = false := by
  unfold riseB
  rw [decide_eq_false_iff_not]
  intro hp
  have hi := (List.getElem?_eq_some_iff.1 hb).1
  have := List.pairwise_iff_getElem.1 hp i (i + 1) (by omega) hi (by omega)
  rw [List.getElem?_eq_getElem (by omega)] at ha hb
  rw [Option.some.inj ha, Option.some.inj hb] at this
  omega
set_option maxHeartbeats 4000000 in
set_option maxRecDepth 100000 in
theorem isSorted_c (L : List Ve) (hv : ∀ p ∈ L, mayR p.2.1 = true) (v : Value) (w : World) (h : Ew w [] v L) : Calls Tryz.prog 64 #[v, .func (.func 65) #[] #[]] w fun e w' => e = .returned (.bool (riseB (eds L))) ∧ Ext w w' := by
  obtain ⟨A, cap, rfl, hl, hm, hat⟩ := ew_form h
  unfold maxLen at hm
  replace hat := hide hat
  have hrows := hide h.2
  clear h
  obtain ⟨R, hR⟩ : ∃ R, R = riseB (eds L) := ⟨_, rfl⟩
  rw [← hR]
  have hRt : Hid ((∀ (i : Nat) (a b : Ve), L[i]? = some a → L[i + 1]? = some b → cmpT a.2.1 b.2.1 ≤ 0) → R = true) := fun h => by
    rw [hR]
    refine riseB_true (fun e he => ?_) fun i a b ha hb => ?_
    · obtain ⟨p, hp, rfl⟩ := List.mem_map.1 he; exact hv p hp
    · rw [List.getElem?_map] at ha hb
      obtain ⟨p, hp, rfl⟩ := Option.map_eq_some_iff.1 ha
      obtain ⟨q, hq, rfl⟩ := Option.map_eq_some_iff.1 hb
      exact h i p q hp hq
  have hRf : Hid (∀ (i : Nat) (a b : Ve), L[i]? = some a → L[i + 1]? = some b → 0 < cmpT a.2.1 b.2.1 → R = false) := fun i a b ha hb h => by
    rw [hR]
    exact riseB_false (i := i) (a := a.2) (b := b.2) (by rw [List.getElem?_map, ha]; rfl) (by rw [List.getElem?_map, hb]; rfl) h
  replace hv := hide hv
  clear hR
  go_enter Tryz.func64, Tryz.ntmps64
  go_wp2_with fail
  go_loopw [5] (fun i wr => ∃ k : Int, i = .int .i64 k ∧ -1 ≤ k ∧ k ≤ (L.length : Int) - 1 ∧ Hid (∀ (j : Nat) (a b : Ve), k ≤ j → L[j]? = some a → L[j + 1]? = some b → cmpT a.2.1 b.2.1 ≤ 0) ∧ Ext w wr) (fun i _ => (intOf i).toNat)
  case atStart => exact ⟨(L.length : Int) - 1, by go_num, by omega, by omega, (fun j a b hj ha hb => by have := (List.getElem?_eq_some_iff.1 hb).1; omega), Ext.refl w⟩
  case round =>
    obtain ⟨k, rfl, hk1, hk, hall, hX⟩ := hrel
    by_cases hlt : 0 < k
    · obtain ⟨m, rfl⟩ : ∃ m : Nat, k = (m : Int) + 1 := ⟨(k - 1).toNat, by omega⟩
      obtain ⟨x, hx⟩ : ∃ x, L[m + 1]? = some x := ⟨_, List.getElem?_eq_getElem (by omega)⟩
      obtain ⟨y, hy⟩ : ∃ y, L[m]? = some y := ⟨_, List.getElem?_eq_getElem (by omega)⟩
      obtain ⟨b, o, rfl, -, hb, c0, c1, c2⟩ := hat.out (m + 1) x hx
      obtain ⟨b', o', e', -, hb', d0, d1, d2⟩ := hat.out m y hy
      injection e' with e'
      injection e' with e1 e2
      subst e1; subst e2
      have k0 := cell_later hX c0
      have k1 := cell_later hX c1
      have k2 := cell_later hX c2
      have j0 := cell_later hX d0
      have j1 := cell_later hX d1
      have j2 := cell_later hX d2
      have hbr : b < wr.heap.size := block_lt_of_cell k0
      have hrx := Sl.ext (hrows.out x (List.mem_of_getElem? hx)) hX
      have hry := Sl.ext (hrows.out y (List.mem_of_getElem? hy)) hX
      have hvx := hv.out x (List.mem_of_getElem? hx)
      have hvy := hv.out y (List.mem_of_getElem? hy)
      have hno := hide (hRf.out m y x hy hx)
      have hyes : Hid (cmpT y.2.1 x.2.1 ≤ 0 → ∀ (j : Nat) (a b : Ve), (m : Int) ≤ j → L[j]? = some a → L[j + 1]? = some b → cmpT a.2.1 b.2.1 ≤ 0) := fun h j a b hj ha hb => by
        by_cases e : j = m
        · subst e
          rw [hy] at ha; rw [hx] at hb
          obtain rfl := Option.some.inj ha
          obtain rfl := Option.some.inj hb
          exact h
        · exact hall.out j a b (by omega) ha hb
      have hsw := cmpT_swap y.2.1 x.2.1
      obtain ⟨xv, xq, xa, xn⟩ := x
      obtain ⟨yv, yq, ya, yn⟩ := y
      simp only at k0 k1 k2 j0 j1 j2 hvx hvy hno hyes hsw hrx hry
      have hin := hide (fun w' (hXw : Ext wr w') => byRow_c xq (xa, xn) xv yq (ya, yn) yv w' (Sl.ext hrx hXw) (Sl.ext hry hXw))
      rw [cmpR_of hvx hvy] at hin
      generalize cmpT yq xq = z at *
      generalize cmpT xq yq = z' at *
      obtain ⟨XA, xcap, rfl⟩ := rw_val hrx
      obtain ⟨YA, ycap, rfl⟩ := rw_val hry
      clear c0 c1 c2 d0 d1 d2 hat hx hy hrows hrx hry hvx hvy hRt hRf hall
      haveI : In b wr := ⟨hbr⟩
      have hm1 : m + 1 < L.length := by omega
      by_cases hz : 0 < z
      · have hf := hide (hno.out hz)
        have hz' : z' < 0 := by omega
        clear hno hyes hsw
        go_wp2_with fail
        refine wp_region_gw (by kernel_rfl) (by kernel_rfl) ?_
        repeat (go_big_quiet_step ((go_at_call 65; with_reducible exact quiet_gw (hin.out _ (GW.grown _)))))
        refine wpQuiet_nil ?_
        intro g
        go_wp2_with fail
        go_returns
        exact ⟨by rw [hf.out]; rfl, hX.trans g.grown⟩
      · have hf := hide (hyes.out (by omega))
        have hz' : ¬ z' < 0 := by omega
        clear hno hyes hsw
        go_wp2_with fail
        refine wp_region_gw (by kernel_rfl) (by kernel_rfl) ?_
        repeat (go_big_quiet_step ((go_at_call 65; with_reducible exact quiet_gw (hin.out _ (GW.grown _)))))
        refine wpQuiet_nil ?_
        intro g
        go_wp2_with fail
        go_roundw
        case rel => exact ⟨m, by go_num, by omega, by omega, hf, hX.trans g.grown⟩
        case measure => first | (simp [intOf]; done) | (simp [intOf]; omega)
    · have hf := hide (hRt.out fun i a b ha hb => hall.out i a b (by omega) ha hb)
      have hle : k ≤ 0 := by omega
      clear hat hrows hall hRt hRf hv
      go_wp2_with fail
      go_returns
      exact ⟨by rw [hf.out]; rfl, hX⟩
theorem eqP_eds : ∀ L M : List Ve, eqP (fun x y : Ve => decide (x.2 = y.2)) L M = decide (eds L = eds M)
  | [], [] => rfl
  | [], _ :: _ => by simp [eqP]
  | _ :: _, [] => by simp [eqP]
  | x :: a, y :: b => by
    show (decide (x.2 = y.2) && eqP (fun x y : Ve => decide (x.2 = y.2)) a b) = _
    rw [eqP_eds a b]
    simp
abbrev OwnE (w : World) (base : Nat) (v : Value) (L : List Ve) : Prop := w.ownsRow base 37 3 v L.length (ec L)
theorem tEdg : ElemT Tryz.prog 22 37 (.agg #[.slice none 0 0, .int .i64 0, .int .i64 0]) 3 40 := ElemT.mk' Tryz.underlying22 (by kernel_rfl) rfl (by omega)
theorem own_appE {w : World} {B : Nat} {v : Value} {L M : List Ve} (h : w.ownsRow B 37 3 v (L.length + M.length) (ec L ++ ec M)) : OwnE w B v (L ++ M) := by
  unfold OwnE; rw [List.length_append, ec_append]; exact h
set_option maxHeartbeats 1000000 in
theorem functions_c (A : Option Addr) (n cap : Nat) (w : World) : Calls Tryz.prog 60 #[.slice A n cap] w fun e w' => ∃ b, e = .returned (.func (.func 108) #[] #[.pointer (some ⟨b, 0, none⟩)]) ∧ Ob w' b 22 [.slice A n cap] ∧ w.heap.size ≤ b ∧ Ext w w' := by
  go_enter Tryz.func60, Tryz.ntmps60
  go_wp2_with fail
  go_returns
  exact ⟨_, rfl, Ob.new w _ [.slice A n cap], Nat.le_refl _, (Ext.refl w).alloc _⟩
end Go.Proofs.YtljkneajdndgjabGreat
set_option linter.unusedVariables false
set_option linter.unusedSimpArgs false
namespace Go.Proofs.YtljkneajdndgjabGreat
open Go.RowKit
attribute [local go_sem] GW.cell GW.frozen In.eq_true In.le_true In.ne In.ne' In.ne_add In.ne_add' In.lt_add Upto.le_true Upto.le_add Upto.lt_add
attribute [-go_sem] sliced
attribute [local go_sem] sliced_eq
end Go.Proofs.YtljkneajdndgjabGreat
