/-
  A helper of ours: no claim of its own. XRowC again, of Compare alone, over the worlds of XDrGw.
-/
import Derived.Test.YtoghgjgaolinaaaDrValA
set_option linter.unusedVariables false
set_option linter.unusedSimpArgs false
namespace Go.Proofs.Ytoghgjgaolinaaa.Dr
open Go.RowKit
attribute [local go_sem] GW.cell GW.frozen In.eq_true In.le_true In.ne In.ne' In.ne_add In.ne_add' In.lt_add Upto.le_true Upto.le_add Upto.lt_add
theorem nanN_c (n : Int) (w : World) : Calls Try.prog 196 #[.int .i64 n] w fun e w' => e = .returned (.bool false) ∧ Ext w w' := by
  go_enter Try.func196, Try.ntmps196
  go_wp2_with fail
  go_returns
  exact ⟨rfl, Ext.refl w⟩
theorem nanT_c (s : ByteArray) (w : World) : Calls Try.prog 203 #[.string s] w fun e w' => e = .returned (.bool false) ∧ Ext w w' := by
  go_enter Try.func203, Try.ntmps203
  go_wp2_with fail
  go_returns
  exact ⟨rfl, Ext.refl w⟩
set_option maxHeartbeats 1000000 in
theorem cmpNum_c (n m : Int) (w : World) : Calls Try.prog 193 #[.int .i64 n, .int .i64 m] w fun e w' => e = .returned (.int .i64 (cmpN n m)) ∧ Ext w w' := by
  obtain ⟨r, hr⟩ : ∃ r, r = cmpN n m := ⟨_, rfl⟩
  rw [← hr]
  unfold cmpN at hr
  by_cases h1 : n < m
  · rw [if_pos h1] at hr
    subst hr
    go_enter Try.func193, Try.ntmps193
    go_wp2_with (go_at_call 196; (first | (with_reducible refine seq_gw' (nanN_c _ _) ?_) | (with_reducible refine seq_gw (nanN_c _ _) ?_)); intro g)
    go_returns
    exact ⟨rfl, g.grown⟩
  · by_cases h2 : m < n
    · rw [if_neg h1, if_pos h2] at hr
      subst hr
      go_enter Try.func193, Try.ntmps193
      go_wp2_with (go_at_call 196; (first | (with_reducible refine seq_gw' (nanN_c _ _) ?_) | (with_reducible refine seq_gw (nanN_c _ _) ?_)); intro g)
      go_returns
      exact ⟨rfl, g.grown⟩
    · rw [if_neg h1, if_neg h2] at hr
      subst hr
      have e : n = m := by omega
      subst e
      go_enter Try.func193, Try.ntmps193
      go_wp2_with (go_at_call 196; (first | (with_reducible refine seq_gw' (nanN_c _ _) ?_) | (with_reducible refine seq_gw (nanN_c _ _) ?_)); intro g)
      go_returns
      exact ⟨rfl, g.grown⟩
set_option maxHeartbeats 1000000 in
theorem cmpText_c (s t : ByteArray) (w : World) : Calls Try.prog 201 #[.string s, .string t] w fun e w' => e = .returned (.int .i64 (cmpL s.data.toList t.data.toList)) ∧ Ext w w' := by
  have key : ∀ r, cmpL s.data.toList t.data.toList = r → Calls Try.prog 201 #[.string s, .string t] w fun e w' => e = .returned (.int .i64 r) ∧ Ext w w' := by
    intro r hr
    have hlt := less_iff s.data.toList t.data.toList
    rw [hr, ← Lib.toList_data, ← Lib.toList_data] at hlt
    have heq : (s.toList == t.toList) = decide (r = 0) := by
      have := cmpL_zero s.data.toList t.data.toList
      rw [hr] at this
      rw [Lib.toList_data, Lib.toList_data]
      by_cases h : r = 0
      · simp [h, this.1 h]
      · simp [h]; intro e; exact h (this.2 (by rw [e]))
    rcases cmpL_range s.data.toList t.data.toList with e | e | e <;> rw [hr] at e <;> subst e <;> clear hr
    · replace hlt : Op.bytesLess s.toList t.toList = true := hlt
      clear heq
      go_enter Try.func201, Try.ntmps201
      go_wp2_with (go_at_call 203; (first | (with_reducible refine seq_gw' (nanT_c _ _) ?_) | (with_reducible refine seq_gw (nanT_c _ _) ?_)); intro g)
      go_returns
      exact ⟨rfl, g.grown⟩
    · replace hlt : Op.bytesLess s.toList t.toList = false := hlt
      replace heq : (s.toList == t.toList) = true := heq
      have hgt : ∀ w, (binOp .gtr 226 (.string s) (.string t)).run Try.prog w = .ok (.bool false) w := fun w => by simp [binOp, Op.stringOp, hlt, heq]
      go_enter Try.func201, Try.ntmps201
      go_wp2_with (go_at_call 203; (first | (with_reducible refine seq_gw' (nanT_c _ _) ?_) | (with_reducible refine seq_gw (nanT_c _ _) ?_)); intro g)
      go_returns
      exact ⟨rfl, g.grown⟩
    · replace hlt : Op.bytesLess s.toList t.toList = false := hlt
      replace heq : (s.toList == t.toList) = false := heq
      have hgt : ∀ w, (binOp .gtr 226 (.string s) (.string t)).run Try.prog w = .ok (.bool true) w := fun w => by simp [binOp, Op.stringOp, hlt, heq]
      go_enter Try.func201, Try.ntmps201
      go_wp2_with (go_at_call 203; (first | (with_reducible refine seq_gw' (nanT_c _ _) ?_) | (with_reducible refine seq_gw (nanT_c _ _) ?_)); intro g)
      go_returns
      exact ⟨rfl, g.grown⟩
  exact key _ rfl
set_option maxHeartbeats 1000000 in
set_option maxRecDepth 100000 in
theorem numNum_c (n m : Int) (w : World) : Calls Try.prog 190 #[.int .i64 n, .iface 225 (.int .i64 m)] w fun e w' => e = .returned (.int .i64 (cmpN n m)) ∧ Ext w w' := by
  have hc := hide (fun w => cmpNum_c n m w)
  generalize cmpN n m = r at hc
  have t1 := as_nn m
  have t2 := as_n m
  go_enter Try.func190, Try.ntmps190
  go_wp2_with (go_at_call 193; refine seq_gw (hc.out _) ?_; intro g)
  go_returns
  exact ⟨rfl, g.grown⟩
set_option maxHeartbeats 1000000 in
set_option maxRecDepth 100000 in
theorem numText_c (n : Int) (t : ByteArray) (w : World) : Calls Try.prog 190 #[.int .i64 n, .iface 226 (.string t)] w fun e w' => e = .returned (.int .i64 (-1)) ∧ Ext w w' := by
  have t1 := as_nt t
  go_enter Try.func190, Try.ntmps190
  go_wp2_with fail
  go_returns
  exact ⟨rfl, Ext.refl w⟩
set_option maxHeartbeats 1000000 in
set_option maxRecDepth 100000 in
theorem textText_c (s t : ByteArray) (w : World) : Calls Try.prog 198 #[.string s, .iface 226 (.string t)] w fun e w' => e = .returned (.int .i64 (cmpL s.data.toList t.data.toList)) ∧ Ext w w' := by
  have hc := hide (fun w => cmpText_c s t w)
  generalize cmpL s.data.toList t.data.toList = r at hc
  have t1 := as_tt t
  have t2 := as_t t
  go_enter Try.func198, Try.ntmps198
  go_wp2_with (go_at_call 201; refine seq_gw (hc.out _) ?_; intro g)
  go_returns
  exact ⟨rfl, g.grown⟩
set_option maxHeartbeats 1000000 in
set_option maxRecDepth 100000 in
theorem textNum_c (s : ByteArray) (m : Int) (w : World) : Calls Try.prog 198 #[.string s, .iface 225 (.int .i64 m)] w fun e w' => e = .returned (.int .i64 1) ∧ Ext w w' := by
  have t1 := as_tn m
  go_enter Try.func198, Try.ntmps198
  go_wp2_with fail
  go_returns
  exact ⟨rfl, Ext.refl w⟩
set_option maxHeartbeats 1000000 in
set_option maxRecDepth 100000 in
theorem cmpNN_c (n m : Int) (s t : ByteArray) (hs : s.size = 0) (ht : t.size = 0) (w : World) : Calls Try.prog 111 #[val 1 n s, val 1 m t] w fun e w' => e = .returned (.int .i64 (cmpN n m)) ∧ Ext w w' := by
  have h1 := hide (fun w => inner_num n s hs w)
  have h2 := hide (fun w => inner_num m t ht w)
  have hc := hide (fun w => numNum_c n m w)
  obtain ⟨r, hr⟩ : ∃ r, r = cmpN n m := ⟨_, rfl⟩
  rw [← hr] at hc ⊢
  clear hr
  clear hs ht
  go_enter Try.func111, Try.ntmps111
  go_wp2_with (first | (go_at_call 145; (first | (with_reducible refine seq_gw' (h2.out _) ?_) | (with_reducible refine seq_gw (h1.out _) ?_)); intro g) | (go_at_call 190; with_reducible refine seq_gw' (hc.out _) ?_; intro g))
  go_returns
  exact ⟨rfl, (((Ext.refl w).alloc _).alloc _).trans g.grown⟩
set_option maxHeartbeats 1000000 in
set_option maxRecDepth 100000 in
theorem cmpNT_c (n : Int) (s t : ByteArray) (hs : s.size = 0) (ht : t.size ≤ 64) (w : World) : Calls Try.prog 111 #[val 1 n s, val 2 0 t] w fun e w' => e = .returned (.int .i64 (-1)) ∧ Ext w w' := by
  have h1 := hide (fun w => inner_num n s hs w)
  have h2 := hide (fun w => inner_text t ht w)
  have hc := hide (fun w => numText_c n t w)
  clear hs ht
  go_enter Try.func111, Try.ntmps111
  go_wp2_with (first | (go_at_call 145; (first | (with_reducible refine seq_gw' (h2.out _) ?_) | (with_reducible refine seq_gw (h1.out _) ?_)); intro g) | (go_at_call 190; with_reducible refine seq_gw' (hc.out _) ?_; intro g))
  go_returns
  exact ⟨rfl, (((Ext.refl w).alloc _).alloc _).trans g.grown⟩
set_option maxHeartbeats 1000000 in
set_option maxRecDepth 100000 in
theorem cmpTN_c (m : Int) (s t : ByteArray) (hs : s.size ≤ 64) (ht : t.size = 0) (w : World) : Calls Try.prog 111 #[val 2 0 s, val 1 m t] w fun e w' => e = .returned (.int .i64 (1)) ∧ Ext w w' := by
  have h1 := hide (fun w => inner_text s hs w)
  have h2 := hide (fun w => inner_num m t ht w)
  have hc := hide (fun w => textNum_c s m w)
  clear hs ht
  go_enter Try.func111, Try.ntmps111
  go_wp2_with (first | (go_at_call 145; (first | (with_reducible refine seq_gw' (h2.out _) ?_) | (with_reducible refine seq_gw (h1.out _) ?_)); intro g) | (go_at_call 198; with_reducible refine seq_gw' (hc.out _) ?_; intro g))
  go_returns
  exact ⟨rfl, (((Ext.refl w).alloc _).alloc _).trans g.grown⟩
set_option maxHeartbeats 1000000 in
set_option maxRecDepth 100000 in
theorem cmpTT_c (s t : ByteArray) (hs : s.size ≤ 64) (ht : t.size ≤ 64) (w : World) : Calls Try.prog 111 #[val 2 0 s, val 2 0 t] w fun e w' => e = .returned (.int .i64 (cmpL s.data.toList t.data.toList)) ∧ Ext w w' := by
  have h1 := hide (fun w => inner_text s hs w)
  have h2 := hide (fun w => inner_text t ht w)
  have hc := hide (fun w => textText_c s t w)
  obtain ⟨r, hr⟩ : ∃ r, r = cmpL s.data.toList t.data.toList := ⟨_, rfl⟩
  rw [← hr] at hc ⊢
  clear hr hs ht
  go_enter Try.func111, Try.ntmps111
  go_wp2_with (first | (go_at_call 145; (first | (with_reducible refine seq_gw' (h2.out _) ?_) | (with_reducible refine seq_gw (h1.out _) ?_)); intro g) | (go_at_call 198; with_reducible refine seq_gw' (hc.out _) ?_; intro g))
  go_returns
  exact ⟨rfl, (((Ext.refl w).alloc _).alloc _).trans g.grown⟩
theorem inner_some {k n : Int} {s : ByteArray} (h : mayB k n s = true) : ∃ v, ∀ w, Calls Try.prog 145 #[val k n s] w fun e w' => e = .returned (.tuple #[v, .bool true]) ∧ Ext w w' := by
  rcases may_cases (k := k) (n := n) (s := s) with ⟨rfl, h'⟩ | ⟨rfl, rfl, h'⟩ | ⟨hm, _⟩
  · exact ⟨_, fun w => inner_num n s h' w⟩
  · exact ⟨_, fun w => inner_text s h' w⟩
  · rw [h] at hm; cases hm
theorem inner_no {k n : Int} {s : ByteArray} (h : mayB k n s = false) (w : World) : Calls Try.prog 145 #[val k n s] w fun e w' => e = .returned (.tuple #[.nilIface, .bool false]) ∧ Ext w w' := by
  rcases may_cases (k := k) (n := n) (s := s) with ⟨rfl, h'⟩ | ⟨rfl, rfl, h'⟩ | ⟨_, h'⟩
  · rw [may_num h'] at h; cases h
  · rw [may_text h'] at h; cases h
  · exact inner_none k n s h' w
set_option maxHeartbeats 1000000 in
set_option maxRecDepth 100000 in
theorem cmpNo1_c (k n k' m : Int) (s t : ByteArray) (h : mayB k n s = false) (w : World) : Calls Try.prog 111 #[val k n s, val k' m t] w fun e w' => e = .returned (.int .i64 0) ∧ Ext w w' := by
  have h1 := hide (fun w => inner_no h w)
  clear h
  go_enter Try.func111, Try.ntmps111
  go_wp2_with (first | (go_at_call 145; with_reducible refine seq_gw (h1.out _) ?_; intro g))
  go_returns
  exact ⟨rfl, (((Ext.refl w).alloc _).alloc _).trans g.grown⟩
set_option maxHeartbeats 1000000 in
set_option maxRecDepth 100000 in
theorem cmpNo2_c (k n k' m : Int) (s t : ByteArray) (h : mayB k n s = true) (h' : mayB k' m t = false) (w : World) : Calls Try.prog 111 #[val k n s, val k' m t] w fun e w' => e = .returned (.int .i64 0) ∧ Ext w w' := by
  obtain ⟨v, h1⟩ := inner_some h
  replace h1 := hide h1
  have h2 := hide (fun w => inner_no h' w)
  clear h h'
  go_enter Try.func111, Try.ntmps111
  go_wp2_with (first | (go_at_call 145; (first | (with_reducible refine seq_gw' (h2.out _) ?_) | (with_reducible refine seq_gw (h1.out _) ?_)); intro g))
  go_returns
  exact ⟨rfl, (((Ext.refl w).alloc _).alloc _).trans g.grown⟩
/-- How a value stands to another. -/
theorem compare_c (k n k' m : Int) (s t : ByteArray) (w : World) : Calls Try.prog 111 #[val k n s, val k' m t] w fun e w' => e = .returned (.int .i64 (cmpV (k, n, s) (k', m, t))) ∧ Ext w w' := by
  unfold cmpV may
  simp only
  rcases may_cases (k := k) (n := n) (s := s) with ⟨rfl, h⟩ | ⟨rfl, rfl, h⟩ | ⟨hm, h⟩ <;> rcases may_cases (k := k') (n := m) (s := t) with ⟨rfl, h'⟩ | ⟨rfl, rfl, h'⟩ | ⟨hm', h'⟩
  · rw [may_num h, may_num h']; exact cmpNN_c n m s t h h' w
  · rw [may_num h, may_text h']; exact cmpNT_c n s t h h' w
  · rw [may_num h, hm']; exact cmpNo2_c _ _ _ _ _ _ (may_num h) hm' w
  · rw [may_text h, may_num h']; exact cmpTN_c m s t h h' w
  · rw [may_text h, may_text h']; exact cmpTT_c s t h h' w
  · rw [may_text h, hm']; exact cmpNo2_c _ _ _ _ _ _ (may_text h) hm' w
  · rw [hm]; exact cmpNo1_c _ _ _ _ _ _ hm w
  · rw [hm]; exact cmpNo1_c _ _ _ _ _ _ hm w
  · rw [hm]; exact cmpNo1_c _ _ _ _ _ _ hm w
end Go.Proofs.Ytoghgjgaolinaaa.Dr
set_option linter.unusedVariables false
set_option linter.unusedSimpArgs false
namespace Go.Proofs.Ytoghgjgaolinaaa.Dr
open Go.RowKit
attribute [local go_sem] GW.cell GW.frozen In.eq_true In.le_true In.ne In.ne' In.ne_add In.ne_add' In.lt_add Upto.le_true Upto.le_add Upto.lt_add
set_option maxHeartbeats 1000000 in
theorem isNone_c (x : Vl) (w : World) : Calls Try.prog 113 #[val x.1 x.2.1 x.2.2] w fun e w' => e = .returned (.bool (!may x)) ∧ Ext w w' := by
  have hm := hide (fun w => may_c x.1 x.2.1 x.2.2 w)
  have e : mayB x.1 x.2.1 x.2.2 = may x := rfl
  rw [e] at hm
  generalize may x = m at *
  obtain ⟨k, n, s⟩ := x
  clear e
  go_enter Try.func113, Try.ntmps113
  go_wp2_with (go_at_call 147; with_reducible refine seq_gw (hm.out _) ?_; intro g)
  go_returns
  exact ⟨rfl, ((Ext.refl w).alloc _).trans g.grown⟩
set_option maxHeartbeats 2000000 in
theorem indexFunc_c (l : List Vl) (v : Value) (w : World) (h : Rw w [] v l) : Calls Try.prog 146 #[v, .func (.func 113) #[] #[]] w fun e w' => e = .returned (.int .i64 (idxF 0 l)) ∧ Ext w w' := by
  obtain ⟨A, cap, rfl, hl, hm, hat⟩ := rw_form h
  unfold maxLen at hm
  replace hat := hide hat
  clear h
  obtain ⟨R, hR⟩ : ∃ R, R = idxF 0 l := ⟨_, rfl⟩
  rw [← hR]
  replace hR := hide hR
  go_enter Try.func146, Try.ntmps146
  go_wp2_with fail
  go_loopg [8] l.length (fun gh i wr => ∃ (k : Nat), i = .int .i64 k ∧ k + gh = l.length ∧ Hid (R = idxF k (l.drop k)) ∧ Ext w wr)
  case atStart => exact ⟨0, rfl, by omega, by simpa using hR, Ext.refl w⟩
  case round =>
    obtain ⟨k, rfl, hk, hRk, hX⟩ := hrel
    clear hR
    by_cases hlt : k < l.length
    · obtain ⟨x, hx⟩ : ∃ x, l[k]? = some x := ⟨_, List.getElem?_eq_getElem hlt⟩
      obtain ⟨b, o, rfl, -, hb, c0, c1, c2⟩ := hat.out k x hx
      have k0 := cell_later hX c0
      have k1 := cell_later hX c1
      have k2 := cell_later hX c2
      have hbr : b < wr.heap.size := block_lt_of_cell k0
      have hin := hide (fun w => isNone_c x w)
      have hR2 := hRk.out
      rw [drop_cons hx] at hR2
      simp only [idxF] at hR2
      replace hR2 := hide hR2
      obtain ⟨xk, xn, xs⟩ := x
      clear c0 c1 c2 hat hx
      cases hmx : may (xk, xn, xs)
      · rw [hmx] at hin hR2
        replace hmx := hide hmx
        go_wp2_with (go_at_call 113; (with_reducible refine seq_gw (hin.out _) ?_); intro g)
        go_returns
        exact ⟨by rw [hR2.out]; rfl, hX.trans g.grown⟩
      · rw [hmx] at hin hR2
        replace hmx := hide hmx
        go_wp2_with (go_at_call 113; (with_reducible refine seq_gw (hin.out _) ?_); intro g)
        go_roundg (l.length - (k + 1))
        case measure => omega
        case rel => exact ⟨k + 1, by go_num, by omega, hR2, hX.trans g.grown⟩
    · have hk' : k = l.length := by omega
      have hge : (l.length : Int) ≤ k := by omega
      have hR2 := hRk.out
      rw [hk', List.drop_length] at hR2
      replace hR2 := hide hR2
      replace hk' := hide hk'
      go_wp2_with fail
      go_returns
      exact ⟨by rw [hR2.out]; rfl, hX⟩
set_option maxHeartbeats 1000000 in
theorem containsFunc_c (l : List Vl) (v : Value) (w : World) (h : Rw w [] v l) : Calls Try.prog 112 #[v, .func (.func 113) #[] #[]] w fun e w' => e = .returned (.bool (!l.all may)) ∧ Ext w w' := by
  have hc := hide (indexFunc_c l v w h)
  have e := hide (idxF_ge 0 l)
  generalize idxF 0 l = z at *
  generalize l.all may = m at *
  clear h
  go_enter Try.func112, Try.ntmps112
  go_wp2_with (go_at_call 146; (with_reducible refine seq_gw hc.out ?_); intro g)
  go_returns
  exact ⟨by rw [← e.out]; rfl, g.grown⟩
set_option maxHeartbeats 1000000 in
theorem rowMay_c (l : List Vl) (v : Value) (w : World) (h : Rw w [] v l) : Calls Try.prog 72 #[v] w fun e w' => e = .returned (.bool (mayR l)) ∧ Ext w w' := by
  have hc := hide (containsFunc_c l v w h)
  obtain ⟨A, cap, rfl, hl, hm, -⟩ := rw_form h
  clear h
  by_cases h8 : l.length ≤ 8
  · have e : mayR l = l.all may := by unfold mayR; rw [decide_eq_true h8, Bool.true_and]
    rw [e]
    generalize l.all may = m at *
    have h8' : (l.length : Int) ≤ 8 := by omega
    clear e
    go_enter Try.func72, Try.ntmps72
    go_wp2_with (go_at_call 112; (with_reducible refine seq_gw hc.out ?_); intro g)
    go_returns
    exact ⟨by simp, g.grown⟩
  · have e : mayR l = false := by unfold mayR; rw [decide_eq_false h8, Bool.false_and]
    rw [e]
    have h8' : decide ((l.length : Int) ≤ 8) = false := by rw [decide_eq_false_iff_not]; omega
    clear e h8
    go_enter Try.func72, Try.ntmps72
    go_wp2_with fail
    go_returns
    exact ⟨rfl, Ext.refl w⟩
end Go.Proofs.Ytoghgjgaolinaaa.Dr
set_option linter.unusedVariables false
set_option linter.unusedSimpArgs false
namespace Go.Proofs.Ytoghgjgaolinaaa.Dr
open Go.RowKit
attribute [local go_sem] GW.cell GW.frozen In.eq_true In.le_true In.ne In.ne' In.ne_add In.ne_add' In.lt_add Upto.le_true Upto.le_add Upto.lt_add
theorem nanI_c (n : Int) (w : World) : Calls Try.prog 144 #[.int .i64 n] w fun e w' => e = .returned (.bool false) ∧ Ext w w' := by
  go_enter Try.func144, Try.ntmps144
  go_wp2_with fail
  go_returns
  exact ⟨rfl, Ext.refl w⟩
set_option maxHeartbeats 1000000 in
theorem cmpInt_c (n m : Int) (w : World) : Calls Try.prog 110 #[.int .i64 n, .int .i64 m] w fun e w' => e = .returned (.int .i64 (cmpN n m)) ∧ Ext w w' := by
  obtain ⟨r, hr⟩ : ∃ r, r = cmpN n m := ⟨_, rfl⟩
  rw [← hr]
  unfold cmpN at hr
  by_cases h1 : n < m
  · rw [if_pos h1] at hr
    subst hr
    go_enter Try.func110, Try.ntmps110
    go_wp2_with (go_at_call 144; (first | (with_reducible refine seq_gw' (nanI_c _ _) ?_) | (with_reducible refine seq_gw (nanI_c _ _) ?_)); intro g)
    go_returns
    exact ⟨rfl, g.grown⟩
  · by_cases h2 : m < n
    · rw [if_neg h1, if_pos h2] at hr
      subst hr
      go_enter Try.func110, Try.ntmps110
      go_wp2_with (go_at_call 144; (first | (with_reducible refine seq_gw' (nanI_c _ _) ?_) | (with_reducible refine seq_gw (nanI_c _ _) ?_)); intro g)
      go_returns
      exact ⟨rfl, g.grown⟩
    · rw [if_neg h1, if_neg h2] at hr
      subst hr
      have e : n = m := by omega
      subst e
      go_enter Try.func110, Try.ntmps110
      go_wp2_with (go_at_call 144; (first | (with_reducible refine seq_gw' (nanI_c _ _) ?_) | (with_reducible refine seq_gw (nanI_c _ _) ?_)); intro g)
      go_returns
      exact ⟨rfl, g.grown⟩
section
variable {l m : List Vl} {v u : Value} {w : World}
set_option maxHeartbeats 2000000 in
set_option maxRecDepth 100000 in
theorem differ_c {ba bb : Nat} (hl : Rw w [] v l) (hm : Rw w [] u m) (oa : Ob w ba 34 [v]) (ob : Ob w bb 34 [u]) (k : Nat) (x y : Vl) (hx : l[k]? = some x) (hy : m[k]? = some y) :
    Calls Try.prog 109 #[.int .i64 k, .pointer (some ⟨ba, 0, none⟩), .pointer (some ⟨bb, 0, none⟩)] w fun e w' => e = .returned (.bool (!decide (x = y))) ∧ Ext w w' := by
  obtain ⟨A, cap, rfl, hlc, hlm, hat⟩ := rw_form hl
  obtain ⟨B, cap2, rfl, hmc, hmm, hbt⟩ := rw_form hm
  unfold maxLen at hlm hmm
  obtain ⟨b, o, rfl, -, hb, k0, k1, k2⟩ := hat k x hx
  obtain ⟨b', o', rfl, -, hb', j0, j1, j2⟩ := hbt k y hy
  have hkl : k < l.length := (List.getElem?_eq_some_iff.1 hx).1
  have hkm : k < m.length := (List.getElem?_eq_some_iff.1 hy).1
  have q0 := oa.cell 0 rfl
  have q1 := ob.cell 0 rfl
  have hba := oa.lt
  have hbb := ob.lt
  obtain ⟨xk, xn, xs⟩ := x
  obtain ⟨yk, yn, ys⟩ := y
  clear hl hm hat hbt hx hy oa ob
  by_cases hxy : (xk, xn, xs) = (yk, yn, ys)
  · cases hxy
    rw [decide_eq_true rfl]
    have hns := neq_same xk xn xs
    go_enter Try.func109, Try.ntmps109
    go_wp2_with fail
    go_quiet (fail)
    go_wp2_with fail
    go_returns
    exact ⟨rfl, (Ext.refl w).drewN _⟩
  · rw [decide_eq_false hxy]
    have hns := neq_other hxy
    replace hxy := hide hxy
    go_enter Try.func109, Try.ntmps109
    go_wp2_with fail
    go_quiet (fail)
    go_wp2_with fail
    go_returns
    exact ⟨rfl, (Ext.refl w).drewN _⟩
set_option maxHeartbeats 2000000 in
set_option maxRecDepth 100000 in
theorem first_c {ba bb : Nat} (hl : Rw w [] v l) (hm : Rw w [] u m) (oa : Ob w ba 34 [v]) (ob : Ob w bb 34 [u]) (n : Nat) (hn : n = min l.length m.length) :
    Calls Try.prog 108 #[.int .i64 n, .func (.func 109) #[] #[.pointer (some ⟨ba, 0, none⟩), .pointer (some ⟨bb, 0, none⟩)]] w fun e w' => e = .returned (.int .i64 (pre l m : Nat)) ∧ Ext w w' := by
  have hmx : n ≤ 9223372036854775807 := by have := hl.le; unfold maxLen at this; omega
  have hd : Hid (∀ wr, Ext w wr → ∀ (k : Nat) (x y : Vl), l[k]? = some x → m[k]? = some y → Calls Try.prog 109 #[.int .i64 k, .pointer (some ⟨ba, 0, none⟩), .pointer (some ⟨bb, 0, none⟩)] wr fun e w' => e = .returned (.bool (!decide (x = y))) ∧ Ext wr w') :=
    fun wr hX k x y hx hy => differ_c (Sl.ext hl hX) (Sl.ext hm hX) (oa.ext hX) (ob.ext hX) k x y hx hy
  obtain ⟨R, hR⟩ : ∃ R, R = pre l m := ⟨_, rfl⟩
  rw [← hR]
  replace hR := hide hR
  replace hn := hide hn
  clear hl hm oa ob
  go_enter Try.func108, Try.ntmps108
  go_wp2_with fail
  go_loopg [7] n (fun gh i wr => ∃ (k : Nat), i = .int .i64 k ∧ k + gh = n ∧ Hid (R = k + pre (l.drop k) (m.drop k)) ∧ Ext w wr)
  case atStart => exact ⟨0, rfl, by omega, (by show R = 0 + pre (l.drop 0) (m.drop 0); rw [hR.out]; simp), Ext.refl w⟩
  case round =>
    obtain ⟨k, rfl, hk, hRk, hX⟩ := hrel
    clear hR
    by_cases hlt : k < n
    · obtain ⟨x, hx⟩ : ∃ x, l[k]? = some x := ⟨_, List.getElem?_eq_getElem (by have := hn.out; omega)⟩
      obtain ⟨y, hy⟩ : ∃ y, m[k]? = some y := ⟨_, List.getElem?_eq_getElem (by have := hn.out; omega)⟩
      have hR2 := hRk.out
      rw [drop_cons hx, drop_cons hy] at hR2
      simp only [pre] at hR2
      have hc := hide (hd.out wr hX k x y hx hy)
      clear hx hy hd hRk
      by_cases hxy : x = y
      · rw [if_pos hxy] at hR2
        rw [decide_eq_true hxy] at hc
        replace hxy := hide hxy
        replace hR2 := hide (show R = (k + 1) + pre (l.drop (k + 1)) (m.drop (k + 1)) by omega)
        go_wp2_with (go_at_call 109; (with_reducible refine seq_gw hc.out ?_); intro g)
        go_roundg (n - (k + 1))
        case measure => omega
        case rel => exact ⟨k + 1, by go_num, by omega, hR2, hX.trans g.grown⟩
      · rw [if_neg hxy] at hR2
        rw [decide_eq_false hxy] at hc
        replace hxy := hide hxy
        replace hR2 := hide hR2
        go_wp2_with (go_at_call 109; (with_reducible refine seq_gw hc.out ?_); intro g)
        go_returns
        exact ⟨by rw [hR2.out]; rfl, hX.trans g.grown⟩
    · have hge : (n : Int) ≤ k := by omega
      have hR2 := hRk.out
      have hp : pre (l.drop k) (m.drop k) = 0 := by
        have h1 := pre_le (l.drop k) (m.drop k)
        rw [List.length_drop, List.length_drop] at h1
        have := hn.out
        omega
      have hkn : k = n := by omega
      rw [hp, hkn] at hR2
      replace hR2 := hide hR2
      replace hkn := hide hkn
      clear hp
      go_wp2_with fail
      go_returns
      exact ⟨by rw [hR2.out]; rfl, hX⟩
end
end Go.Proofs.Ytoghgjgaolinaaa.Dr
