/-
  A helper of ours: no claim of its own. Layer 9 (step): the other sign, and parts, by the code.
-/
import Derived.Test.YtljkneajdndgjaaGreatIdx
import Derived.Test.YtljkneajdndgjaaGreatReg
set_option linter.unusedVariables false
set_option linter.unusedSimpArgs false
namespace Go.Proofs.YtljkneajdndgjaaGreat
open Go.RowKit
attribute [local go_sem] GW.cell GW.frozen In.eq_true In.le_true In.ne In.ne' In.ne_add In.ne_add' In.lt_add Upto.le_true Upto.le_add Upto.lt_add
set_option maxHeartbeats 2000000 in
theorem indexERow_c (L : List Ve) (v : Value) (w : World) (h : Ew w [] v L) : Calls Tryz.prog 121 #[v, .func (.func 76) #[] #[]] w fun e w' => e = .returned (.int .i64 (idxP (fun x : Ve => mayR x.2.1) 0 L)) ∧ Ext w w' := by
  obtain ⟨A, cap, rfl, hl, hm, hat⟩ := ew_form h
  unfold maxLen at hm
  replace hat := hide hat
  have hrows := hide h.2
  clear h
  obtain ⟨R, hR⟩ : ∃ R, R = idxP (fun x : Ve => mayR x.2.1) 0 L := ⟨_, rfl⟩
  rw [← hR]
  replace hR := hide hR
  go_enter Tryz.func121, Tryz.ntmps121
  go_wp2_with fail
  go_loopg [8] L.length (fun gh i wr => ∃ (k : Nat), i = .int .i64 k ∧ k + gh = L.length ∧ Hid (R = idxP (fun x : Ve => mayR x.2.1) k (L.drop k)) ∧ Ext w wr)
  case atStart => exact ⟨0, rfl, by omega, by simpa using hR, Ext.refl w⟩
  case round =>
    obtain ⟨k, rfl, hk, hRk, hX⟩ := hrel
    clear hR
    by_cases hlt : k < L.length
    · obtain ⟨x, hx⟩ : ∃ x, L[k]? = some x := ⟨_, List.getElem?_eq_getElem hlt⟩
      obtain ⟨b, o, rfl, -, hb, c0, c1, c2⟩ := hat.out k x hx
      have k0 := cell_later hX c0
      have k1 := cell_later hX c1
      have k2 := cell_later hX c2
      have hbr : b < wr.heap.size := block_lt_of_cell k0
      have hrw := Sl.ext (hrows.out x (List.mem_of_getElem? hx)) hX
      have hR2 := hRk.out
      rw [drop_cons hx] at hR2
      obtain ⟨xv, xq, xa, xn⟩ := x
      simp only at k0 k1 k2 hrw
      have hin := hide (fun w' (hXw : Ext wr w') => hasNoRow_c xq (xa, xn) xv w' (Sl.ext hrw hXw))
      have hX00 := hide (Ext.refl wr)
      obtain ⟨XA, xcap, rfl⟩ := rw_val hrw
      clear c0 c1 c2 hat hx hrows hrw
      cases hmx : mayR xq
      · rw [hmx] at hin
        rw [idxP_no (p := (fun x : Ve => mayR x.2.1)) (x := (.slice XA xq.length xcap, xq, xa, xn)) hmx] at hR2
        replace hR2 := hide hR2
        replace hmx := hide hmx
        go_wp2_with (go_at_call 76; (with_reducible refine seq_gw (hin.out _ hX00.out) ?_); intro g)
        go_returns
        exact ⟨by rw [hR2.out]; rfl, hX.trans g.grown⟩
      · rw [hmx] at hin
        rw [idxP_yes (p := (fun x : Ve => mayR x.2.1)) (x := (.slice XA xq.length xcap, xq, xa, xn)) hmx] at hR2
        replace hR2 := hide hR2
        replace hmx := hide hmx
        go_wp2_with (go_at_call 76; (with_reducible refine seq_gw (hin.out _ hX00.out) ?_); intro g)
        go_roundg (L.length - (k + 1))
        case measure => omega
        case rel => exact ⟨k + 1, by go_num, by omega, hR2, hX.trans g.grown⟩
    · have hk' : k = L.length := by omega
      have hge : (L.length : Int) ≤ k := by omega
      have hR2 := hRk.out
      rw [hk', List.drop_length] at hR2
      replace hR2 := hide hR2
      replace hk' := hide hk'
      go_wp2_with fail
      go_returns
      exact ⟨by rw [hR2.out]; rfl, hX⟩
set_option maxHeartbeats 1000000 in
theorem containsERow_c (L : List Ve) (v : Value) (w : World) (h : Ew w [] v L) : Calls Tryz.prog 75 #[v, .func (.func 76) #[] #[]] w fun e w' => e = .returned (.bool (!L.all (fun x : Ve => mayR x.2.1))) ∧ Ext w w' := by
  have hc := hide (indexERow_c L v w h)
  have e := hide (idxP_ge (fun x : Ve => mayR x.2.1) 0 L)
  generalize idxP (fun x : Ve => mayR x.2.1) 0 L = z at *
  obtain ⟨A, cap, rfl, -, -, -⟩ := ew_form h
  clear h
  go_enter Tryz.func75, Tryz.ntmps75
  go_wp2_with (go_at_call 121; (with_reducible refine seq_gw hc.out ?_); intro g)
  go_returns
  exact ⟨by rw [← e.out]; first | rfl | simp, g.grown⟩
theorem rise_adj : ∀ {l : List Ed}, (∀ e ∈ l, mayR e.1 = true) → (∀ (i : Nat) (a b : Ed), l[i]? = some a → l[i + 1]? = some b → cmpT a.1 b.1 ≤ 0) → l.Pairwise fun a b => cmpT a.1 b.1 ≤ 0
  | [], _, _ => List.Pairwise.nil
  | [a], _, _ => by simp
  | a :: b :: l, hv, h => by
    have ih := rise_adj (l := b :: l) (fun e he => hv e (List.mem_cons_of_mem _ he)) (fun i x y hx hy => h (i + 1) x y (by simpa using hx) (by simpa using hy))
    have hab := h 0 a b rfl rfl
    rw [List.pairwise_cons]
    refine ⟨fun x hx => ?_, ih⟩
    rcases List.mem_cons.1 hx with rfl | hx
    · exact hab
    · have hbx := (List.pairwise_cons.1 ih).1 x hx
      have := cmpT_trans a.1 b.1 x.1 (mayR_iff.1 (hv a (by simp))).2 (mayR_iff.1 (hv b (by simp))).2 (mayR_iff.1 (hv x (by simp [hx]))).2 hab hbx
      omega
theorem riseB_true {l : List Ed} (hv : ∀ e ∈ l, mayR e.1 = true) (h : ∀ (i : Nat) (a b : Ed), l[i]? = some a → l[i + 1]? = some b → cmpT a.1 b.1 ≤ 0) : riseB l = true := by
  unfold riseB; rw [decide_eq_true_iff]; exact rise_adj hv h
theorem riseB_false {l : List Ed} {i : Nat} {a b : Ed} (ha : l[i]? = some a) (hb : l[i + 1]? = some b) (h : 0 < cmpT a.1 b.1) : riseB l = false := by
  unfold riseB
  rw [decide_eq_false_iff_not]
  intro hp
  have hi := (List.getElem?_eq_some_iff.1 hb).1
  have := List.pairwise_iff_getElem.1 hp i (i + 1) (by omega) hi (by omega)
  rw [List.getElem?_eq_getElem (by omega)] at ha hb
  rw [Option.some.inj ha, Option.some.inj hb] at this
  omega
set_option maxHeartbeats 4000000 in
set_option maxRecDepth 100000 in
theorem isSorted_c (L : List Ve) (hv : ∀ p ∈ L, mayR p.2.1 = true) (v : Value) (w : World) (h : Ew w [] v L) : Calls Tryz.prog 97 #[v, .func (.func 81) #[] #[]] w fun e w' => e = .returned (.bool (riseB (eds L))) ∧ Ext w w' := by
  obtain ⟨A, cap, rfl, hl, hm, hat⟩ := ew_form h
  unfold maxLen at hm
  replace hat := hide hat
  have hrows := hide h.2
  clear h
  obtain ⟨R, hR⟩ : ∃ R, R = riseB (eds L) := ⟨_, rfl⟩
  rw [← hR]
  have hRt : Hid ((∀ (i : Nat) (a b : Ve), L[i]? = some a → L[i + 1]? = some b → cmpT a.2.1 b.2.1 ≤ 0) → R = true) := fun h => by
    rw [hR]
    refine riseB_true (fun e he => ?_) fun i a b ha hb => ?_
    · obtain ⟨p, hp, rfl⟩ := List.mem_map.1 he; exact hv p hp
    · rw [List.getElem?_map] at ha hb
      obtain ⟨p, hp, rfl⟩ := Option.map_eq_some_iff.1 ha
      obtain ⟨q, hq, rfl⟩ := Option.map_eq_some_iff.1 hb
      exact h i p q hp hq
  have hRf : Hid (∀ (i : Nat) (a b : Ve), L[i]? = some a → L[i + 1]? = some b → 0 < cmpT a.2.1 b.2.1 → R = false) := fun i a b ha hb h => by
    rw [hR]
    exact riseB_false (i := i) (a := a.2) (b := b.2) (by rw [List.getElem?_map, ha]; rfl) (by rw [List.getElem?_map, hb]; rfl) h
  replace hv := hide hv
  clear hR
  go_enter Tryz.func97, Tryz.ntmps97
  go_wp2_with fail
  go_loopw [5] (fun i wr => ∃ k : Int, i = .int .i64 k ∧ -1 ≤ k ∧ k ≤ (L.length : Int) - 1 ∧ Hid (∀ (j : Nat) (a b : Ve), k ≤ j → L[j]? = some a → L[j + 1]? = some b → cmpT a.2.1 b.2.1 ≤ 0) ∧ Ext w wr) (fun i _ => (intOf i).toNat)
  case atStart => exact ⟨(L.length : Int) - 1, by go_num, by omega, by omega, (fun j a b hj ha hb => by have := (List.getElem?_eq_some_iff.1 hb).1; omega), Ext.refl w⟩
  case round =>
    obtain ⟨k, rfl, hk1, hk, hall, hX⟩ := hrel
    by_cases hlt : 0 < k
    · obtain ⟨m, rfl⟩ : ∃ m : Nat, k = (m : Int) + 1 := ⟨(k - 1).toNat, by omega⟩
      obtain ⟨x, hx⟩ : ∃ x, L[m + 1]? = some x := ⟨_, List.getElem?_eq_getElem (by omega)⟩
      obtain ⟨y, hy⟩ : ∃ y, L[m]? = some y := ⟨_, List.getElem?_eq_getElem (by omega)⟩
      obtain ⟨b, o, rfl, -, hb, c0, c1, c2⟩ := hat.out (m + 1) x hx
      obtain ⟨b', o', e', -, hb', d0, d1, d2⟩ := hat.out m y hy
      injection e' with e'
      injection e' with e1 e2
      subst e1; subst e2
      have k0 := cell_later hX c0
      have k1 := cell_later hX c1
      have k2 := cell_later hX c2
      have j0 := cell_later hX d0
      have j1 := cell_later hX d1
      have j2 := cell_later hX d2
      have hbr : b < wr.heap.size := block_lt_of_cell k0
      have hrx := Sl.ext (hrows.out x (List.mem_of_getElem? hx)) hX
      have hry := Sl.ext (hrows.out y (List.mem_of_getElem? hy)) hX
      have hvx := hv.out x (List.mem_of_getElem? hx)
      have hvy := hv.out y (List.mem_of_getElem? hy)
      have hno := hide (hRf.out m y x hy hx)
      have hyes : Hid (cmpT y.2.1 x.2.1 ≤ 0 → ∀ (j : Nat) (a b : Ve), (m : Int) ≤ j → L[j]? = some a → L[j + 1]? = some b → cmpT a.2.1 b.2.1 ≤ 0) := fun h j a b hj ha hb => by
        by_cases e : j = m
        · subst e
          rw [hy] at ha; rw [hx] at hb
          obtain rfl := Option.some.inj ha
          obtain rfl := Option.some.inj hb
          exact h
        · exact hall.out j a b (by omega) ha hb
      have hsw := cmpT_swap y.2.1 x.2.1
      obtain ⟨xv, xq, xa, xn⟩ := x
      obtain ⟨yv, yq, ya, yn⟩ := y
      simp only at k0 k1 k2 j0 j1 j2 hvx hvy hno hyes hsw hrx hry
      have hin := hide (fun w' (hXw : Ext wr w') => byRow_c xq (xa, xn) xv yq (ya, yn) yv w' (Sl.ext hrx hXw) (Sl.ext hry hXw))
      rw [cmpR_of hvx hvy] at hin
      generalize cmpT yq xq = z at *
      generalize cmpT xq yq = z' at *
      obtain ⟨XA, xcap, rfl⟩ := rw_val hrx
      obtain ⟨YA, ycap, rfl⟩ := rw_val hry
      clear c0 c1 c2 d0 d1 d2 hat hx hy hrows hrx hry hvx hvy hRt hRf hall
      haveI : In b wr := ⟨hbr⟩
      have hm1 : m + 1 < L.length := by omega
      by_cases hz : 0 < z
      · have hf := hide (hno.out hz)
        have hz' : z' < 0 := by omega
        clear hno hyes hsw
        go_wp2_with fail
        refine wp_region_gw (by kernel_rfl) (by kernel_rfl) ?_
        repeat (go_big_quiet_step ((go_at_call 81; with_reducible exact quiet_gw (hin.out _ (GW.grown _)))))
        refine wpQuiet_nil ?_
        intro g
        go_wp2_with fail
        go_returns
        exact ⟨by rw [hf.out]; rfl, hX.trans g.grown⟩
      · have hf := hide (hyes.out (by omega))
        have hz' : ¬ z' < 0 := by omega
        clear hno hyes hsw
        go_wp2_with fail
        refine wp_region_gw (by kernel_rfl) (by kernel_rfl) ?_
        repeat (go_big_quiet_step ((go_at_call 81; with_reducible exact quiet_gw (hin.out _ (GW.grown _)))))
        refine wpQuiet_nil ?_
        intro g
        go_wp2_with fail
        go_roundw
        case rel => exact ⟨m, by go_num, by omega, by omega, hf, hX.trans g.grown⟩
        case measure => first | (simp [intOf]; done) | (simp [intOf]; omega)
    · have hf := hide (hRt.out fun i a b ha hb => hall.out i a b (by omega) ha hb)
      have hle : k ≤ 0 := by omega
      clear hat hrows hall hRt hRf hv
      go_wp2_with fail
      go_returns
      exact ⟨by rw [hf.out]; rfl, hX⟩
theorem eqP_eds : ∀ L M : List Ve, eqP (fun x y : Ve => decide (x.2 = y.2)) L M = decide (eds L = eds M)
  | [], [] => rfl
  | [], _ :: _ => by simp [eqP]
  | _ :: _, [] => by simp [eqP]
  | x :: a, y :: b => by
    show (decide (x.2 = y.2) && eqP (fun x y : Ve => decide (x.2 = y.2)) a b) = _
    rw [eqP_eds a b]
    simp
abbrev OwnE (w : World) (base : Nat) (v : Value) (L : List Ve) : Prop := w.ownsRow base 58 3 v L.length (ec L)
theorem tEdg : ElemT Tryz.prog 25 58 (.agg #[.slice none 0 0, .int .i64 0, .int .i64 0]) 3 40 := ElemT.mk' Tryz.underlying25 (by kernel_rfl) rfl (by omega)
theorem own_appE {w : World} {B : Nat} {v : Value} {L M : List Ve} (h : w.ownsRow B 58 3 v (L.length + M.length) (ec L ++ ec M)) : OwnE w B v (L ++ M) := by
  unfold OwnE; rw [List.length_append, ec_append]; exact h
set_option maxHeartbeats 1000000 in
theorem functions_c (A : Option Addr) (n cap : Nat) (w : World) : Calls Tryz.prog 98 #[.slice A n cap] w fun e w' => ∃ b, e = .returned (.func (.func 141) #[] #[.pointer (some ⟨b, 0, none⟩)]) ∧ Ob w' b 25 [.slice A n cap] ∧ w.heap.size ≤ b ∧ Ext w w' := by
  go_enter Tryz.func98, Tryz.ntmps98
  go_wp2_with fail
  go_returns
  exact ⟨_, rfl, Ob.new w _ [.slice A n cap], Nat.le_refl _, (Ext.refl w).alloc _⟩
end Go.Proofs.YtljkneajdndgjaaGreat
set_option linter.unusedVariables false
set_option linter.unusedSimpArgs false
namespace Go.Proofs.YtljkneajdndgjaaGreat
open Go.RowKit
attribute [local go_sem] GW.cell GW.frozen In.eq_true In.le_true In.ne In.ne' In.ne_add In.ne_add' In.lt_add Upto.le_true Upto.le_add Upto.lt_add
attribute [-go_sem] sliced
attribute [local go_sem] sliced_eq
theorem ps_take (l : List Jp) : ∀ n, (ps l).take (n * 2) = ps (l.take n) := by
  induction l with
  | nil => intro n; simp [ps]
  | cons p r ih =>
    intro n
    rcases n with _ | n
    · simp [ps]
    · rw [show (n + 1) * 2 = n * 2 + 1 + 1 by omega]
      simpa [ps] using ih n
theorem jw_drop {w : World} {S : List Nat} {A : Option Addr} {cap : Nat} {l : List Jp} (h : Jw w S (.slice A l.length cap) l) (k : Nat) (hk : k ≤ l.length) : Jw w S (.slice (cutA A k cap 2) (l.length - k) (cap - k)) (l.drop k) := by
  obtain ⟨_, c, e, h1, h2, h3, h4⟩ := id h
  simp only [Value.slice.injEq] at e
  obtain ⟨rfl, -, rfl⟩ := e
  have hc := h.cut k l.length cap hk (Nat.le_refl _) h1 (Nat.le_refl _)
  rw [sliced_eq, List.take_of_length_le (by rw [ps_length]; omega), ps_drop] at hc
  unfold Jw
  rw [List.length_drop]
  exact hc
theorem jw_take {w : World} {S : List Nat} {A : Option Addr} {cap : Nat} {l : List Jp} (h : Jw w S (.slice A l.length cap) l) (k : Nat) (hk : k ≤ l.length) : Jw w S (.slice (cutA A 0 cap 2) k cap) (l.take k) := by
  obtain ⟨_, c, e, h1, h2, h3, h4⟩ := id h
  simp only [Value.slice.injEq] at e
  obtain ⟨rfl, -, rfl⟩ := e
  have hl : (l.take k).length = k := by rw [List.length_take]; omega
  have hc := h.cut 0 k k (Nat.zero_le _) hk (Nat.le_refl _) (by omega)
  have hc := h.cut 0 k cap (Nat.zero_le _) hk (by omega) (Nat.le_refl _)
  rw [sliced_eq, Nat.zero_mul, List.drop_zero, ps_take] at hc
  unfold Jw
  rw [hl]
  exact hc
theorem cut_at {l : List Jp} {k : Nat} {t : Int} (hl : ∀ j ∈ l.take k, j.1 < t) (hx : ∀ x, l[k]? = some x → t ≤ x.1) : cutL l t = l.take k ∧ cutR l t = l.drop k := by
  unfold cutL cutR
  induction l generalizing k with
  | nil => simp
  | cons a r ih =>
    rcases k with _ | k
    · have h := hx a rfl
      rw [List.takeWhile_cons, List.dropWhile_cons, if_neg (by simp; omega), if_neg (by simp; omega)]
      exact ⟨rfl, rfl⟩
    · have h := hl a (by simp)
      obtain ⟨i1, i2⟩ := ih (k := k) (fun j hj => hl j (by simp [hj])) (fun x hx' => hx x (by simpa using hx'))
      rw [List.takeWhile_cons, List.dropWhile_cons, if_pos (by simpa using h), if_pos (by simpa using h), i1, i2]
      exact ⟨rfl, rfl⟩
set_option maxHeartbeats 4000000 in
set_option maxRecDepth 100000 in
theorem cut_c (l : List Jp) (hb : mayJ l = true) (t : Int) (v : Value) (w : World) (h : Jw w [] v l) : Calls Tryz.prog 101 #[v, .int .i64 t] w fun e w' => ∃ v1 v2, e = .returned (.tuple #[v1, v2, .int .i64 (js (cutL l t))]) ∧ (∀ W, Jw W [] v l → Jw W [] v1 (cutL l t) ∧ Jw W [] v2 (cutR l t)) ∧ Ext w w' := by
  obtain ⟨A, cap, rfl, hl, hm, hat⟩ := jw_form h
  unfold maxLen at hm
  replace hat := hide hat
  clear h
  have hnet := hide (mayJ_net hb)
  have hn := hide (show l.length ≤ 4096 by have := mayJ_len hb; omega)
  have hnI : (l.length : Int) ≤ 4096 := by have := hn.out; omega
  replace hb := hide hb
  go_enter Tryz.func101, Tryz.ntmps101
  go_wp2_with fail
  go_loopg [6, 7] l.length (fun gh s i wr => ∃ (k : Nat) (z : Int), i = .int .i64 k ∧ s = .int .i64 z ∧ k + gh = l.length ∧ Hid (z = js (l.take k)) ∧ Hid (∀ j ∈ l.take k, j.1 < t) ∧ Ext w wr)
  case atStart => exact ⟨0, 0, rfl, rfl, by omega, rfl, (by intro j hj; simp at hj), Ext.refl w⟩
  case round =>
    obtain ⟨k, z, rfl, rfl, hk, hz, hlo, hX⟩ := hrel
    by_cases hlt : k < l.length
    · obtain ⟨x, hx⟩ : ∃ x, l[k]? = some x := ⟨_, List.getElem?_eq_getElem hlt⟩
      obtain ⟨b, o, rfl, -, hbl, c0, c1⟩ := hat.out k x hx
      have k0 := jcell_later hX c0
      have k1 := jcell_later hX c1
      have hbr : b < wr.heap.size := block_lt_of_cell k0
      obtain ⟨z1, z2⟩ := (show -4294967296 ≤ z ∧ z ≤ 4294967296 by have := hz.out; rw [this]; exact js_small hnet.out hn.out k)
      obtain ⟨n1, n2⟩ := hnet.out x (List.mem_of_getElem? hx)
      by_cases hle : x.1 < t
      · have hnx := js_next hx
        rw [← hz.out] at hnx
        have hlo' : Hid (∀ j ∈ l.take (k + 1), j.1 < t) := by
          intro j hj
          rw [take_snoc hx] at hj
          rcases List.mem_append.1 hj with hj | hj
          · exact hlo.out j hj
          · simp only [List.mem_singleton] at hj; subst hj; exact hle
        clear c0 c1 hx hz hlo
        obtain ⟨xp, xn⟩ := x
        simp only at n1 n2 hnx k0 k1 hle
        replace hnx := hide hnx
        go_wp2_with fail
        go_roundg (l.length - (k + 1))
        case measure => omega
        case rel => exact ⟨k + 1, z + xn, by go_num, by go_num, by omega, hnx.out.symm, hlo', hX⟩
      · obtain ⟨q1, q2⟩ := cut_at hlo.out (fun y hy => by rw [hx] at hy; cases hy; omega)
        have e1 : Hid (js (cutL l t) = z) := by show _ = _; rw [q1, ← hz.out]
        have hq1 := hide q1
        have hq2 := hide q2
        have d : decide (x.1 < t) = false := by rw [decide_eq_false_iff_not]; exact hle
        have hkI : (k : Int) ≤ l.length := by omega
        have hkc : k ≤ cap := by omega
        clear c0 c1 hx hz hlo hle n1 n2 q1 q2
        obtain ⟨xp, xn⟩ := x
        simp only at k0 k1 d
        go_wp2_with fail
        go_quiet (fail)
        go_wp2_with fail
        go_returns
        rw [e1.out]
        refine ⟨_, _, rfl, fun W h => ?_, hX.drewN _⟩
        rw [hq1.out, hq2.out]
        exact ⟨jw_take h k (by omega), jw_drop h k (by omega)⟩
    · have hk' : k = l.length := by omega
      have hge : (l.length : Int) ≤ k := by omega
      obtain ⟨q1, q2⟩ := cut_at hlo.out (fun y hy => by rw [List.getElem?_eq_none (by omega)] at hy; cases hy)
      have e1 : Hid (js (cutL l t) = z) := by show _ = _; rw [q1, ← hz.out]
      have hq1 := hide q1
      have hq2 := hide q2
      have hkI : (k : Int) ≤ l.length := by omega
      have hkc : k ≤ cap := by omega
      replace hk' := hide hk'
      clear hz hlo q1 q2
      go_wp2_with fail
      go_quiet (fail)
      go_wp2_with fail
      go_returns
      rw [e1.out]
      refine ⟨_, _, rfl, fun W h => ?_, hX.drewN _⟩
      rw [hq1.out, hq2.out]
      exact ⟨jw_take h k (by omega), jw_drop h k (by omega)⟩
set_option maxHeartbeats 4000000 in
set_option maxRecDepth 100000 in
theorem stepAhead_c (l : List Jp) (t : Int) (v : Value) (w : World) (h : Jw w [] v l) : Calls Tryz.prog 48 #[v, .int .i64 t] w fun e w' => ∃ v', e = .returned (.tuple #[v', .int .i64 (ahE l t)]) ∧ OwnJ w' w.heap.size v' (ahR l t) ∧ Ext w w' := by
  have hm := hide (stepMay_c l v w h)
  obtain ⟨E, hE⟩ : ∃ E, E = ahE l t := ⟨_, rfl⟩
  obtain ⟨R, hR⟩ : ∃ R, R = ahR l t := ⟨_, rfl⟩
  rw [← hE, ← hR]
  cases hb : mayJ l
  · have e1 : E = 2 := by rw [hE]; unfold ahE; rw [hb]; rfl
    have e2 : R = [] := by rw [hR]; unfold ahR; rw [← hE, e1, if_neg (by decide)]
    subst e1
    subst e2
    rw [hb] at hm
    clear hb hE hR h
    go_enter Tryz.func48, Tryz.ntmps48
    go_wp2_with (go_at_call 99; (with_reducible refine seq_gw hm.out ?_); intro g)
    go_returns
    exact ⟨_, rfl, World.ownsRow_nil _ _ _ _, g.grown⟩
  · rw [hb] at hm
    have hEF : Hid (E = full (ahC l t)) := by show _ = _; rw [hE, ahead_code hb]; unfold ahE; rw [hb]; rfl
    have hRF : Hid (R = kept (ahC l t)) := by
      show _ = _
      rw [hR, ahead_code hb]; unfold ahR ahE; rw [hb]
      unfold full kept
      cases mayJ (ahL l t) <;> rfl
    have hcut := hide (fun w' (hX : Ext w w') => cut_c l hb t v w' (Sl.ext h hX))
    have lL : (cutL l t).length ≤ 1024 := by have := (List.takeWhile_sublist (fun j : Jp => decide (j.1 < t)) (l := l)).length_le; have := mayJ_len hb; unfold cutL; omega
    obtain ⟨z1, z2⟩ := (show -4294967296 ≤ js (cutL l t) ∧ js (cutL l t) ≤ 4294967296 by
      have h1 := js_bound (K := 1048576) (by omega) (f := cutL l t) (fun j hj => mayJ_net hb j ((List.takeWhile_sublist _).subset hj))
      omega)
    unfold ahC at hEF hRF
    generalize js (cutL l t) = z at *
    generalize cutL l t = cl at *
    generalize cutR l t = cr at *
    have hh := hide h
    replace hb := hide hb
    clear hE hR h
    obtain ⟨A, cap, rfl, -, -, -⟩ := jw_form hh.out
    by_cases hz : z = 0
    · subst hz
      rw [if_neg (by simp)] at hEF hRF
      go_enter Tryz.func48, Tryz.ntmps48
      go_wp2_with (first | (go_at_call 99; (with_reducible refine seq_gw hm.out ?_); intro g) | (go_at_call 101; refine (hcut.out _ g.grown).mono ?_; rintro ee w2 ⟨v1, v2, rfl, hv, hx2⟩; have hv1 := hide ((hv w2 (Sl.ext hh.out (g.grown.trans hx2))).1); clear hv) | (go_at_call 102; refine (jmpClone_c cl v1 w2 hv1.out (by omega)).mono ?_; rintro ee w3 ⟨v3, rfl, ho3, hx3⟩; have hX3 := hide (g.grown.trans (hx2.trans hx3)); have hsz := (g.grown.trans hx2).size; have huf := hide (unlessFull_c cl v3 w.heap.size w3 (own_base ho3 hsz)); clear hv1 ho3) | (go_at_call 103; refine huf.out.mono ?_; rintro ee w4 ⟨v4, rfl, ho4, hx4⟩))
      go_returns
      rw [hEF.out, hRF.out]
      exact ⟨_, rfl, ho4, hX3.out.trans hx4⟩
    · have hzb : (z != 0) = true := by simp [hz]
      by_cases htF : t < 1125899906842624
      · rw [if_pos ⟨hz, htF⟩] at hEF hRF
        replace hz := hide hz
        go_enter Tryz.func48, Tryz.ntmps48
        go_wp2_with (first | (go_at_call 99; (with_reducible refine seq_gw hm.out ?_); intro g) | (go_at_call 101; refine (hcut.out _ g.grown).mono ?_; rintro ee w2 ⟨v1, v2, rfl, hv, hx2⟩; have hv1 := hide ((hv w2 (Sl.ext hh.out (g.grown.trans hx2))).1); clear hv) | (go_at_call 102; refine (jmpClone_c cl v1 w2 hv1.out (by omega)).mono ?_; rintro ee w3 ⟨v3, rfl, ho3, hx3⟩; have hX3 := hide (g.grown.trans (hx2.trans hx3)); have hsz := (g.grown.trans hx2).size; have hsz3 := hX3.out.size; replace ho3 := hide (own_base ho3 hsz); clear hv1) | (at_builtin; (refine wpl_app tJmp rfl (.tmp 28) (.tmp 33) rfl rfl (own_ext ho3.out ((Ext.refl w3).alloc _)) rfl (src_jmp Tryz.underlying73 w3 (t, -z) _) (by unfold maxLen; omega) (by omega) (by simp only [World.size_alloc]; omega) ?_; intro v7 w7 ho7 hg7 _; have hX7 := hide (ext_grown (hX3.out.alloc _) hg7 (fun k hk => (ho3.out.lt k hk).1)); have huf := hide (unlessFull_c (cl ++ [(t, -z)]) v7 w.heap.size w7 (own_appJ ho7)))) | (go_at_call 103; refine huf.out.mono ?_; rintro ee w4 ⟨v4, rfl, ho4, hx4⟩))
        go_returns
        rw [hEF.out, hRF.out]
        exact ⟨_, rfl, ho4, hX7.out.trans hx4⟩
      · have d : decide (t < 1125899906842624) = false := by rw [decide_eq_false_iff_not]; exact htF
        rw [if_neg (fun h => htF h.2)] at hEF hRF
        replace hz := hide hz
        clear htF
        go_enter Tryz.func48, Tryz.ntmps48
        go_wp2_with (first | (go_at_call 99; (with_reducible refine seq_gw hm.out ?_); intro g) | (go_at_call 101; refine (hcut.out _ g.grown).mono ?_; rintro ee w2 ⟨v1, v2, rfl, hv, hx2⟩; have hv1 := hide ((hv w2 (Sl.ext hh.out (g.grown.trans hx2))).1); clear hv) | (go_at_call 102; refine (jmpClone_c cl v1 w2 hv1.out (by omega)).mono ?_; rintro ee w3 ⟨v3, rfl, ho3, hx3⟩; have hX3 := hide (g.grown.trans (hx2.trans hx3)); have hsz := (g.grown.trans hx2).size; have huf := hide (unlessFull_c cl v3 w.heap.size w3 (own_base ho3 hsz)); clear hv1 ho3) | (go_at_call 103; refine huf.out.mono ?_; rintro ee w4 ⟨v4, rfl, ho4, hx4⟩))
        go_returns
        rw [hEF.out, hRF.out]
        exact ⟨_, rfl, ho4, hX3.out.trans hx4⟩
set_option maxHeartbeats 4000000 in
set_option maxRecDepth 100000 in
theorem stepRest_c (l : List Jp) (t : Int) (v : Value) (w : World) (h : Jw w [] v l) : Calls Tryz.prog 51 #[v, .int .i64 t] w fun e w' => ∃ v', e = .returned (.tuple #[v', .int .i64 (reE l t)]) ∧ OwnJ w' w.heap.size v' (reR l t) ∧ Ext w w' := by
  have hm := hide (stepMay_c l v w h)
  obtain ⟨E, hE⟩ : ∃ E, E = reE l t := ⟨_, rfl⟩
  obtain ⟨R, hR⟩ : ∃ R, R = reR l t := ⟨_, rfl⟩
  rw [← hE, ← hR]
  cases hb : mayJ l
  · have e1 : E = 2 := by rw [hE]; unfold reE; rw [hb]; rfl
    have e2 : R = [] := by rw [hR]; unfold reR; rw [← hE, e1, if_neg (by decide)]
    subst e1
    subst e2
    rw [hb] at hm
    clear hb hE hR h
    go_enter Tryz.func51, Tryz.ntmps51
    go_wp2_with (go_at_call 99; (with_reducible refine seq_gw hm.out ?_); intro g)
    go_returns
    exact ⟨_, rfl, World.ownsRow_nil _ _ _ _, g.grown⟩
  rw [hb] at hm
  by_cases htF : 1125899906842624 ≤ t
  · have e0 : reL l t = [] := by unfold reL; rw [if_pos htF]
    have e1 : E = 0 := by rw [hE]; unfold reE; rw [hb, e0]; rfl
    have e2 : R = [] := by rw [hR]; unfold reR; rw [← hE, e1, if_pos rfl, e0]
    subst e1
    subst e2
    clear e0 hE hR h hb
    go_enter Tryz.func51, Tryz.ntmps51
    go_wp2_with (go_at_call 99; (with_reducible refine seq_gw hm.out ?_); intro g)
    go_returns
    exact ⟨_, rfl, World.ownsRow_nil _ _ _ _, g.grown⟩
  · have d : decide (1125899906842624 ≤ t) = false := by rw [decide_eq_false_iff_not]; exact htF
    have ec := rest_code hb t (by omega)
    have hEF : Hid (E = full (reC l t)) := by show _ = _; rw [hE, ec]; unfold reE; rw [hb]; rfl
    have hRF : Hid (R = kept (reC l t)) := by
      show _ = _
      rw [hR, ec]; unfold reR reE; rw [hb]
      unfold full kept
      cases mayJ (reL l t) <;> rfl
    have hcut := hide (fun w' (hX : Ext w w') => cut_c l hb t v w' (Sl.ext h hX))
    have lR : (cutR l t).length ≤ 1024 := by have := (List.dropWhile_sublist (fun j : Jp => decide (j.1 < t)) (l := l)).length_le; have := mayJ_len hb; unfold cutR; omega
    unfold reC at hEF hRF
    generalize js (cutL l t) = z at *
    generalize cutL l t = cl at *
    generalize cutR l t = cr at *
    have hh := hide h
    replace hb := hide hb
    clear hE hR h htF ec
    obtain ⟨A, cap, rfl, -, -, -⟩ := jw_form hh.out
    by_cases hz : z = 0
    · subst hz
      rw [if_neg (by simp)] at hEF hRF
      go_enter Tryz.func51, Tryz.ntmps51
      go_wp2_with (first | (go_at_call 99; (with_reducible refine seq_gw hm.out ?_); intro g) | (go_at_call 101; refine (hcut.out _ g.grown).mono ?_; rintro ee w2 ⟨v1, v2, rfl, hv, hx2⟩; have hv2 := hide ((hv w2 (Sl.ext hh.out (g.grown.trans hx2))).2); have hX2 := hide (g.grown.trans hx2); have hsz := hX2.out.size; clear hv) | (at_builtin; (refine wpl_app tJmp rfl (.tmp 29) (.tmp 30) rfl rfl (World.ownsRow_nil _ w.heap.size _ _) rfl (src_sl Tryz.underlying73 hv2.out (ps_one _) (by omega)) (by unfold maxLen; omega) (by omega) hsz ?_; intro v7 w7 ho7 hg7 _; have hX7 := hide (ext_grown hX2.out hg7 (fun k hk => ((World.ownsRow_nil w2 w.heap.size 125 2).lt k hk).1)); have huf := hide (unlessFull_c cr v7 w.heap.size w7 (by have := own_appJ (l := []) ho7; simpa using this)))) | (go_at_call 103; refine huf.out.mono ?_; rintro ee w4 ⟨v4, rfl, ho4, hx4⟩))
      go_returns
      rw [hEF.out, hRF.out]
      exact ⟨_, rfl, ho4, hX7.out.trans hx4⟩
    · have hzb : (z != 0) = true := by simp [hz]
      rw [if_pos hz] at hEF hRF
      replace hz := hide hz
      go_enter Tryz.func51, Tryz.ntmps51
      go_wp2_with (first | (go_at_call 99; (with_reducible refine seq_gw hm.out ?_); intro g) | (go_at_call 101; refine (hcut.out _ g.grown).mono ?_; rintro ee w2 ⟨v1, v2, rfl, hv, hx2⟩; have hv2 := hide ((hv w2 (Sl.ext hh.out (g.grown.trans hx2))).2); have hX2 := hide (g.grown.trans hx2); have hsz := hX2.out.size; clear hv) | (at_builtin; (refine wpl_app tJmp rfl (.tmp 24) (.tmp 27) rfl rfl (World.ownsRow_nil _ w.heap.size _ _) rfl (src_jmp Tryz.underlying73 w2 (-1, z) _) (by unfold maxLen; omega) (by omega) (by simp only [World.size_alloc]; omega) ?_; intro v6 w6 ho6 hg6 _; have hX6 := hide (ext_grown (hX2.out.alloc _) hg6 (fun k hk => ((World.ownsRow_nil w2 w.heap.size 125 2).lt k hk).1)); have hX26 := hide (ext_grown ((Ext.refl w2).alloc _) hg6 (fun k hk => ((World.ownsRow_nil w2 w2.heap.size 125 2).lt k hk).1)); have ho6' := hide (show OwnJ w6 w.heap.size v6 [(-1, z)] by have := own_appJ (l := []) ho6; simpa using this); have hsz6 := hX6.out.size; clear ho6)) | (at_builtin; (refine wpl_app tJmp rfl (.tmp 29) (.tmp 30) rfl rfl ho6'.out rfl (src_sl Tryz.underlying73 (Sl.ext hv2.out hX26.out) (ps_one _) (by omega)) (by unfold maxLen; simp only [List.length_singleton]; omega) (by simp only [List.length_singleton]; omega) hsz6 ?_; intro v7 w7 ho7 hg7 _; have hX7 := hide (ext_grown hX6.out hg7 (fun k hk => (ho6'.out.lt k hk).1)); have huf := hide (unlessFull_c ((-1, z) :: cr) v7 w.heap.size w7 (by have := own_appJ (l := [(-1, z)]) ho7; simpa using this)))) | (go_at_call 103; refine huf.out.mono ?_; rintro ee w4 ⟨v4, rfl, ho4, hx4⟩))
      go_returns
      rw [hEF.out, hRF.out]
      exact ⟨_, rfl, ho4, hX7.out.trans hx4⟩
end Go.Proofs.YtljkneajdndgjaaGreat
