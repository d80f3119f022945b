/-
  A helper of ours: no claim of its own. Layer 10 (edge): edges asked one by one, in order, pair by pair; cloned; what ranges over their rows.
-/
import Derived.Test.YtljkneajdndgjabGreatEdgA
import Derived.Test.YtljkneajdndgjabGreatReg3
import Derived.Test.YtljkneajdndgjabGreatStepC
import Derived.Test.YtljkneajdndgjabGreatReg
set_option linter.unusedVariables false
set_option linter.unusedSimpArgs false
namespace Go.Proofs.YtljkneajdndgjabGreat
open Go.RowKit
attribute [local go_sem] GW.cell GW.frozen In.eq_true In.le_true In.ne In.ne' In.ne_add In.ne_add' In.lt_add Upto.le_true Upto.le_add Upto.lt_add
set_option maxHeartbeats 2000000 in
theorem indexERow_c (L : List Ve) (v : Value) (w : World) (h : Ew w [] v L) : Calls Tryz.prog 111 #[v, .func (.func 63) #[] #[]] w fun e w' => e = .returned (.int .i64 (idxP (fun x : Ve => mayR x.2.1) 0 L)) ∧ Ext w w' := by
  obtain ⟨A, cap, rfl, hl, hm, hat⟩ := ew_form h
  unfold maxLen at hm
  replace hat := hide hat
  have hrows := hide h.2
  clear h
  obtain ⟨R, hR⟩ : ∃ R, R = idxP (fun x : Ve => mayR x.2.1) 0 L := ⟨_, rfl⟩
  rw [← hR]
  replace hR := hide hR
  go_enter Tryz.func111, Tryz.ntmps111
  go_wp2_with fail
  go_loopg [8] L.length (fun gh i wr => ∃ (k : Nat), i = .int .i64 k ∧ k + gh = L.length ∧ Hid (R = idxP (fun x : Ve => mayR x.2.1) k (L.drop k)) ∧ Ext w wr)
  case atStart => exact ⟨0, rfl, by omega, by simpa using hR, Ext.refl w⟩
  case round =>
    obtain ⟨k, rfl, hk, hRk, hX⟩ := hrel
    clear hR
    by_cases hlt : k < L.length
    · obtain ⟨x, hx⟩ : ∃ x, L[k]? = some x := ⟨_, List.getElem?_eq_getElem hlt⟩
      obtain ⟨b, o, rfl, -, hb, c0, c1, c2⟩ := hat.out k x hx
      have k0 := cell_later hX c0
      have k1 := cell_later hX c1
      have k2 := cell_later hX c2
      have hbr : b < wr.heap.size := block_lt_of_cell k0
      have hrw := Sl.ext (hrows.out x (List.mem_of_getElem? hx)) hX
      have hR2 := hRk.out
      rw [drop_cons hx] at hR2
      obtain ⟨xv, xq, xa, xn⟩ := x
      simp only at k0 k1 k2 hrw
      have hin := hide (fun w' (hXw : Ext wr w') => hasNoRow_c xq (xa, xn) xv w' (Sl.ext hrw hXw))
      have hX00 := hide (Ext.refl wr)
      obtain ⟨XA, xcap, rfl⟩ := rw_val hrw
      clear c0 c1 c2 hat hx hrows hrw
      cases hmx : mayR xq
      · rw [hmx] at hin
        rw [idxP_no (p := (fun x : Ve => mayR x.2.1)) (x := (.slice XA xq.length xcap, xq, xa, xn)) hmx] at hR2
        replace hR2 := hide hR2
        replace hmx := hide hmx
        go_wp2_with (go_at_call 63; (with_reducible refine seq_gw (hin.out _ hX00.out) ?_); intro g)
        go_returns
        exact ⟨by rw [hR2.out]; rfl, hX.trans g.grown⟩
      · rw [hmx] at hin
        rw [idxP_yes (p := (fun x : Ve => mayR x.2.1)) (x := (.slice XA xq.length xcap, xq, xa, xn)) hmx] at hR2
        replace hR2 := hide hR2
        replace hmx := hide hmx
        go_wp2_with (go_at_call 63; (with_reducible refine seq_gw (hin.out _ hX00.out) ?_); intro g)
        go_roundg (L.length - (k + 1))
        case measure => omega
        case rel => exact ⟨k + 1, by go_num, by omega, hR2, hX.trans g.grown⟩
    · have hk' : k = L.length := by omega
      have hge : (L.length : Int) ≤ k := by omega
      have hR2 := hRk.out
      rw [hk', List.drop_length] at hR2
      replace hR2 := hide hR2
      replace hk' := hide hk'
      go_wp2_with fail
      go_returns
      exact ⟨by rw [hR2.out]; rfl, hX⟩
set_option maxHeartbeats 1000000 in
theorem containsERow_c (L : List Ve) (v : Value) (w : World) (h : Ew w [] v L) : Calls Tryz.prog 62 #[v, .func (.func 63) #[] #[]] w fun e w' => e = .returned (.bool (!L.all (fun x : Ve => mayR x.2.1))) ∧ Ext w w' := by
  have hc := hide (indexERow_c L v w h)
  have e := hide (idxP_ge (fun x : Ve => mayR x.2.1) 0 L)
  generalize idxP (fun x : Ve => mayR x.2.1) 0 L = z at *
  obtain ⟨A, cap, rfl, -, -, -⟩ := ew_form h
  clear h
  go_enter Tryz.func62, Tryz.ntmps62
  go_wp2_with (go_at_call 111; (with_reducible refine seq_gw hc.out ?_); intro g)
  go_returns
  exact ⟨by rw [← e.out]; first | rfl | simp, g.grown⟩
theorem rise_adj : ∀ {l : List Ed}, (∀ e ∈ l, mayR e.1 = true) → (∀ (i : Nat) (a b : Ed), l[i]? = some a → l[i + 1]? = some b → cmpT a.1 b.1 ≤ 0) → l.Pairwise fun a b => cmpT a.1 b.1 ≤ 0
  | [], _, _ => List.Pairwise.nil
  | [a], _, _ => by simp
  | a :: b :: l, hv, h => by
    have ih := rise_adj (l := b :: l) (fun e he => hv e (List.mem_cons_of_mem _ he)) (fun i x y hx hy => h (i + 1) x y (by simpa using hx) (by simpa using hy))
    have hab := h 0 a b rfl rfl
    rw [List.pairwise_cons]
    refine ⟨fun x hx => ?_, ih⟩
    rcases List.mem_cons.1 hx with rfl | hx
    · exact hab
    · have hbx := (List.pairwise_cons.1 ih).1 x hx
      have := cmpT_trans a.1 b.1 x.1 (mayR_iff.1 (hv a (by simp))).2 (mayR_iff.1 (hv b (by simp))).2 (mayR_iff.1 (hv x (by simp [hx]))).2 hab hbx
      omega
theorem riseB_true {l : List Ed} (hv : ∀ e ∈ l, mayR e.1 = true) (h : ∀ (i : Nat) (a b : Ed), l[i]? = some a → l[i + 1]? = some b → cmpT a.1 b.1 ≤ 0) : riseB l = true := by
  unfold riseB; rw [decide_eq_true_iff]; exact rise_adj hv h
theorem riseB_false {l : List Ed} {i : Nat} {a b : Ed} (ha : l[i]? = some a) (hb : l[i + 1]? = some b) (h : 0 < cmpT a.1 b.1) : riseB l = false := by
  unfold riseB
  rw [decide_eq_false_iff_not]
  intro hp
  have hi := (List.getElem?_eq_some_iff.1 hb).1
  have := List.pairwise_iff_getElem.1 hp i (i + 1) (by omega) hi (by omega)
  rw [List.getElem?_eq_getElem (by omega)] at ha hb
  rw [Option.some.inj ha, Option.some.inj hb] at this
  omega
set_option maxHeartbeats 4000000 in
set_option maxRecDepth 100000 in
theorem isSorted_c (L : List Ve) (hv : ∀ p ∈ L, mayR p.2.1 = true) (v : Value) (w : World) (h : Ew w [] v L) : Calls Tryz.prog 64 #[v, .func (.func 65) #[] #[]] w fun e w' => e = .returned (.bool (riseB (eds L))) ∧ Ext w w' := by
  obtain ⟨A, cap, rfl, hl, hm, hat⟩ := ew_form h
  unfold maxLen at hm
  replace hat := hide hat
  have hrows := hide h.2
  clear h
  obtain ⟨R, hR⟩ : ∃ R, R = riseB (eds L) := ⟨_, rfl⟩
  rw [← hR]
  have hRt : Hid ((∀ (i : Nat) (a b : Ve), L[i]? = some a → L[i + 1]? = some b → cmpT a.2.1 b.2.1 ≤ 0) → R = true) := fun h => by
    rw [hR]
    refine riseB_true (fun e he => ?_) fun i a b ha hb => ?_
    · obtain ⟨p, hp, rfl⟩ := List.mem_map.1 he; exact hv p hp
    · rw [List.getElem?_map] at ha hb
      obtain ⟨p, hp, rfl⟩ := Option.map_eq_some_iff.1 ha
      obtain ⟨q, hq, rfl⟩ := Option.map_eq_some_iff.1 hb
      exact h i p q hp hq
  have hRf : Hid (∀ (i : Nat) (a b : Ve), L[i]? = some a → L[i + 1]? = some b → 0 < cmpT a.2.1 b.2.1 → R = false) := fun i a b ha hb h => by
    rw [hR]
    exact riseB_false (i := i) (a := a.2) (b := b.2) (by rw [List.getElem?_map, ha]; rfl) (by rw [List.getElem?_map, hb]; rfl) h
  replace hv := hide hv
  clear hR
  go_enter Tryz.func64, Tryz.ntmps64
  go_wp2_with fail
  go_loopw [5] (fun i wr => ∃ k : Int, i = .int .i64 k ∧ -1 ≤ k ∧ k ≤ (L.length : Int) - 1 ∧ Hid (∀ (j : Nat) (a b : Ve), k ≤ j → L[j]? = some a → L[j + 1]? = some b → cmpT a.2.1 b.2.1 ≤ 0) ∧ Ext w wr) (fun i _ => (intOf i).toNat)
  case atStart => exact ⟨(L.length : Int) - 1, by go_num, by omega, by omega, (fun j a b hj ha hb => by have := (List.getElem?_eq_some_iff.1 hb).1; omega), Ext.refl w⟩
  case round =>
    obtain ⟨k, rfl, hk1, hk, hall, hX⟩ := hrel
    by_cases hlt : 0 < k
    · obtain ⟨m, rfl⟩ : ∃ m : Nat, k = (m : Int) + 1 := ⟨(k - 1).toNat, by omega⟩
      obtain ⟨x, hx⟩ : ∃ x, L[m + 1]? = some x := ⟨_, List.getElem?_eq_getElem (by omega)⟩
      obtain ⟨y, hy⟩ : ∃ y, L[m]? = some y := ⟨_, List.getElem?_eq_getElem (by omega)⟩
      obtain ⟨b, o, rfl, -, hb, c0, c1, c2⟩ := hat.out (m + 1) x hx
      obtain ⟨b', o', e', -, hb', d0, d1, d2⟩ := hat.out m y hy
      injection e' with e'
      injection e' with e1 e2
      subst e1; subst e2
      have k0 := cell_later hX c0
      have k1 := cell_later hX c1
      have k2 := cell_later hX c2
      have j0 := cell_later hX d0
      have j1 := cell_later hX d1
      have j2 := cell_later hX d2
      have hbr : b < wr.heap.size := block_lt_of_cell k0
      have hrx := Sl.ext (hrows.out x (List.mem_of_getElem? hx)) hX
      have hry := Sl.ext (hrows.out y (List.mem_of_getElem? hy)) hX
      have hvx := hv.out x (List.mem_of_getElem? hx)
      have hvy := hv.out y (List.mem_of_getElem? hy)
      have hno := hide (hRf.out m y x hy hx)
      have hyes : Hid (cmpT y.2.1 x.2.1 ≤ 0 → ∀ (j : Nat) (a b : Ve), (m : Int) ≤ j → L[j]? = some a → L[j + 1]? = some b → cmpT a.2.1 b.2.1 ≤ 0) := fun h j a b hj ha hb => by
        by_cases e : j = m
        · subst e
          rw [hy] at ha; rw [hx] at hb
          obtain rfl := Option.some.inj ha
          obtain rfl := Option.some.inj hb
          exact h
        · exact hall.out j a b (by omega) ha hb
      have hsw := cmpT_swap y.2.1 x.2.1
      obtain ⟨xv, xq, xa, xn⟩ := x
      obtain ⟨yv, yq, ya, yn⟩ := y
      simp only at k0 k1 k2 j0 j1 j2 hvx hvy hno hyes hsw hrx hry
      have hin := hide (fun w' (hXw : Ext wr w') => byRow_c xq (xa, xn) xv yq (ya, yn) yv w' (Sl.ext hrx hXw) (Sl.ext hry hXw))
      rw [cmpR_of hvx hvy] at hin
      generalize cmpT yq xq = z at *
      generalize cmpT xq yq = z' at *
      obtain ⟨XA, xcap, rfl⟩ := rw_val hrx
      obtain ⟨YA, ycap, rfl⟩ := rw_val hry
      clear c0 c1 c2 d0 d1 d2 hat hx hy hrows hrx hry hvx hvy hRt hRf hall
      haveI : In b wr := ⟨hbr⟩
      have hm1 : m + 1 < L.length := by omega
      by_cases hz : 0 < z
      · have hf := hide (hno.out hz)
        have hz' : z' < 0 := by omega
        clear hno hyes hsw
        go_wp2_with fail
        refine wp_region_gw (by kernel_rfl) (by kernel_rfl) ?_
        repeat (go_big_quiet_step ((go_at_call 65; with_reducible exact quiet_gw (hin.out _ (GW.grown _)))))
        refine wpQuiet_nil ?_
        intro g
        go_wp2_with fail
        go_returns
        exact ⟨by rw [hf.out]; rfl, hX.trans g.grown⟩
      · have hf := hide (hyes.out (by omega))
        have hz' : ¬ z' < 0 := by omega
        clear hno hyes hsw
        go_wp2_with fail
        refine wp_region_gw (by kernel_rfl) (by kernel_rfl) ?_
        repeat (go_big_quiet_step ((go_at_call 65; with_reducible exact quiet_gw (hin.out _ (GW.grown _)))))
        refine wpQuiet_nil ?_
        intro g
        go_wp2_with fail
        go_roundw
        case rel => exact ⟨m, by go_num, by omega, by omega, hf, hX.trans g.grown⟩
        case measure => first | (simp [intOf]; done) | (simp [intOf]; omega)
    · have hf := hide (hRt.out fun i a b ha hb => hall.out i a b (by omega) ha hb)
      have hle : k ≤ 0 := by omega
      clear hat hrows hall hRt hRf hv
      go_wp2_with fail
      go_returns
      exact ⟨by rw [hf.out]; rfl, hX⟩
theorem eqP_eds : ∀ L M : List Ve, eqP (fun x y : Ve => decide (x.2 = y.2)) L M = decide (eds L = eds M)
  | [], [] => rfl
  | [], _ :: _ => by simp [eqP]
  | _ :: _, [] => by simp [eqP]
  | x :: a, y :: b => by
    show (decide (x.2 = y.2) && eqP (fun x y : Ve => decide (x.2 = y.2)) a b) = _
    rw [eqP_eds a b]
    simp
abbrev OwnE (w : World) (base : Nat) (v : Value) (L : List Ve) : Prop := w.ownsRow base 37 3 v L.length (ec L)
theorem tEdg : ElemT Tryz.prog 22 37 (.agg #[.slice none 0 0, .int .i64 0, .int .i64 0]) 3 40 := ElemT.mk' Tryz.underlying22 (by kernel_rfl) rfl (by omega)
theorem own_appE {w : World} {B : Nat} {v : Value} {L M : List Ve} (h : w.ownsRow B 37 3 v (L.length + M.length) (ec L ++ ec M)) : OwnE w B v (L ++ M) := by
  unfold OwnE; rw [List.length_append, ec_append]; exact h
set_option maxHeartbeats 1000000 in
theorem functions_c (A : Option Addr) (n cap : Nat) (w : World) : Calls Tryz.prog 60 #[.slice A n cap] w fun e w' => ∃ b, e = .returned (.func (.func 108) #[] #[.pointer (some ⟨b, 0, none⟩)]) ∧ Ob w' b 22 [.slice A n cap] ∧ w.heap.size ≤ b ∧ Ext w w' := by
  go_enter Tryz.func60, Tryz.ntmps60
  go_wp2_with fail
  go_returns
  exact ⟨_, rfl, Ob.new w _ [.slice A n cap], Nat.le_refl _, (Ext.refl w).alloc _⟩
end Go.Proofs.YtljkneajdndgjabGreat
