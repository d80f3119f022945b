/-
  A helper of ours: no claim of its own. Layer 17 (expr): words of one's own; the first word of a part; two parts in the other order.
-/
import Derived.Test.YtopgapbipmblbaaExpC
import Derived.Lib.AppendZerosOnto
import Derived.Lib.LazyBuf
import Derived.WalkLawsBesides
set_option linter.unusedVariables false
set_option linter.unusedSimpArgs false
namespace Go.Proofs.Ytopgapbipmblbaa
open Go.RowKit
attribute [local go_sem] GW.cell GW.frozen In.eq_true In.le_true In.ne In.ne' In.ne_add In.ne_add' In.lt_add Upto.le_true Upto.le_add Upto.lt_add
abbrev OwnX (w : World) (base : Nat) (v : Value) (l : List Vl) : Prop := w.ownsRow base 57 3 v l.length (rc l)
theorem tOp : ElemT Try.prog 23 57 (.agg #[.int .i64 0, .int .i64 0, .string ⟨#[]⟩]) 3 32 := ElemT.mk' Try.underlying23 (by kernel_rfl) rfl (by omega)
theorem own_appX {w : World} {B : Nat} {v : Value} {l m : List Vl} (h : w.ownsRow B 57 3 v (l.length + m.length) (rc l ++ rc m)) : OwnX w B v (l ++ m) := by
  unfold OwnX; rw [List.length_append, rc_append]; exact h
theorem own_xw {w : World} {B : Nat} {S : List Nat} {v : Value} {l : List Vl} (h : OwnX w B v l) (hs : ∀ b, b ∈ S → b < B) : Rw w S v l := Sl.own h hs
set_option maxHeartbeats 1000000 in
set_option maxRecDepth 100000 in
theorem exprClone_c (l : List Vl) (v : Value) (w : World) (h : Rw w [] v l) (hz : l.length * 32 ≤ 140737488351232) : Calls Try.prog 46 #[v] w fun e w' => ∃ v', e = .returned v' ∧ OwnX w' w.heap.size v' l ∧ Ext w w' := by
  obtain ⟨A, cap, rfl, hl, hm, -⟩ := rw_form h
  have hq := fun w => Lib.run_eql_slice_nil (P := Try.prog) w 23 57 A l.length cap 0 0 Try.underlying23
  cases A with
  | none =>
    have hl0 : l = [] := by
      obtain ⟨A', cap', e, _, _, h3, h4⟩ := h
      rcases h4 with h4 | ⟨b, o, rfl, _⟩
      · have := congrArg List.length h4; rw [rc_length] at this; exact List.eq_nil_of_length_eq_zero (by simp at this; omega)
      · cases e
    subst hl0
    clear h hq
    have hq0 := fun w => Lib.run_eql_slice_nil (P := Try.prog) w 23 57 none 0 cap 0 0 Try.underlying23
    show Calls Try.prog 46 #[.slice none 0 cap] w fun e w' => ∃ v', e = .returned v' ∧ OwnX w' w.heap.size v' [] ∧ Ext w w'
    go_enter Try.func46, Try.ntmps46
    go_wp2_with fail
    go_returns
    exact ⟨_, rfl, World.ownsRow_nil _ _ _ _, Ext.refl w⟩
  | some a =>
    have hlit := hide (World.ownsRow_lit (base := w.heap.size) (e := 57) (size := 3) w #[] 0 (Nat.le_refl _) (by decide) rfl)
    have hv := hide h
    clear h
    go_enter Try.func46, Try.ntmps46
    go_wp2_with (at_builtin; (refine wpl_app tOp rfl (.tmp 5) (.tmp 6) rfl rfl hlit.out rfl (src_sl Try.underlying23 (Sl.ext hv.out ((Ext.refl w).alloc _)) (rc_one _) (by omega)) (by unfold maxLen; omega) (by omega) (by simp) ?_; intro v1 w1 ho1 hg1 _))
    go_returns
    have ho2 : OwnX w1 w.heap.size v1 l := by have := own_appX (l := []) ho1; simpa using this
    exact ⟨_, rfl, ho2, ext_grown ((Ext.refl w).alloc _) hg1 (fun k hk => (hlit.out.lt k hk).1)⟩
def flats (ts : List Tr) : List Vl := ts.flatMap Tr.flat
theorem flats_len : ∀ ts : List Tr, ts.length ≤ (flats ts).length
  | [] => Nat.le_refl _
  | t :: r => by
    have h1 := flats_len r
    have h2 := t.flat_pos
    simp only [flats, List.flatMap_cons, List.length_append, List.length_cons] at h1 ⊢
    omega
theorem flats_snoc (ts : List Tr) (t : Tr) : flats (ts ++ [t]) = flats ts ++ (flats t.kids ++ [t.top]) := by
  simp only [flats, List.flatMap_append, List.flatMap_cons, List.flatMap_nil, List.append_nil]
  rw [t.flat_kids]
theorem flats_app (a b : List Tr) : flats (a ++ b) = flats a ++ flats b := by simp [flats]
theorem take_last {l p : List Vl} {o : Vl} {k : Nat} (h : l.take (k + 1) = p ++ [o]) (hk : k + 1 ≤ l.length) : l[k]? = some o ∧ l.take k = p := by
  have hlen : p.length = k := by
    have := congrArg List.length h
    rw [List.length_take, Nat.min_eq_left hk] at this
    simp at this; omega
  constructor
  · have : (l.take (k + 1))[k]? = l[k]? := by rw [List.getElem?_take, if_pos (by omega)]
    rw [← this, h, ← hlen]; simp
  · have : (l.take (k + 1)).take k = l.take k := by rw [List.take_take]; congr 1; omega
    rw [← this, h, ← hlen]; simp
theorem begin_step {l p : List Vl} {ts : List Tr} {k : Nat} (hk : 0 < ts.length) (hkl : k ≤ l.length) (h : l.take k = p ++ flats ts) (hg : ∀ x ∈ ts, x.good) :
    ∃ (j : Nat) (o : Vl) (us : List Tr) (n d : Nat), k = j + 1 ∧ ts.length = n + 1 ∧ l[j]? = some o ∧ l.take j = p ++ flats us ∧ (∀ x ∈ us, x.good) ∧ us.length = n + d ∧ tkI o.1 = (d : Int) ∧ d ≤ 2 ∧ n + d ≤ j := by
  obtain ⟨ts, t, rfl⟩ : ∃ us t, ts = us ++ [t] := by
    rcases List.eq_nil_or_concat ts with rfl | ⟨us, t, e⟩
    · simp at hk
    · exact ⟨us, t, by simpa using e⟩
  have hlen : k = p.length + (flats (ts ++ [t])).length := by
    have := congrArg List.length h
    rw [List.length_take, Nat.min_eq_left hkl, List.length_append] at this
    exact this
  have hfl := flats_len (ts ++ [t])
  rw [List.length_append, List.length_singleton] at hfl
  obtain ⟨j, rfl⟩ : ∃ j, k = j + 1 := ⟨k - 1, by omega⟩
  rw [flats_snoc, ← List.append_assoc, ← List.append_assoc] at h
  obtain ⟨hx, hr⟩ := take_last h hkl
  have hgt := hg t (by simp)
  refine ⟨j, t.top, ts ++ t.kids, ts.length, t.kids.length, rfl, by simp, hx, by rw [hr, flats_app, List.append_assoc], ?_, by simp, t.kids_len hgt, by cases t <;> simp [Tr.kids], ?_⟩
  · intro x hx
    rcases List.mem_append.1 hx with hx | hx
    · exact hg x (by simp [hx])
    · exact t.kids_good hgt x hx
  · have h1 := flats_len (ts ++ t.kids)
    have h2 := congrArg List.length hr
    rw [List.length_take, Nat.min_eq_left (by omega), List.append_assoc, ← flats_app, List.length_append] at h2
    rw [List.length_append] at h1
    omega
set_option maxHeartbeats 4000000 in
set_option maxRecDepth 100000 in
theorem begin_c (l : List Vl) (v : Value) (w : World) (h : Rw w [] v l) (p : List Vl) (t : Tr) (g0 : t.good) (en : Nat) (he : l.take en = p ++ t.flat) (hen : en ≤ l.length) :
    Calls Try.prog 45 #[v, .int .i64 en] w fun e w' => e = .returned (.int .i64 p.length) ∧ Ext w w' := by
  obtain ⟨A, cap, rfl, hl, hm, hat⟩ := rw_form h
  have hmax : l.length ≤ 9223372036854775807 := by unfold maxLen at hm; omega
  replace hat := hide hat
  clear h hm hl
  have hstart := hide (show l.take en = p ++ flats [t] by simp [flats]; exact he)
  have hg0 := hide (show ∀ x ∈ [t], x.good by simpa using g0)
  clear he g0
  obtain ⟨N, hN⟩ : ∃ N, N = l.length := ⟨_, rfl⟩
  have hNh := hide hN
  rw [← hN] at hen hmax ⊢
  clear hN
  go_enter Try.func45, Try.ntmps45
  go_wp2_with fail
  go_loopg [5, 6] en (fun gh fr ms wr => ∃ (k n : Nat), fr = .int .i64 k ∧ ms = .int .i64 (n : Int) ∧ k = gh ∧ k ≤ en ∧ Hid (∃ ts : List Tr, ts.length = n ∧ l.take k = p ++ flats ts ∧ (∀ x ∈ ts, x.good)) ∧ Ext w wr)
  case atStart => exact ⟨en, 1, rfl, by simp, rfl, Nat.le_refl _, ⟨[t], rfl, hstart.out, hg0.out⟩, Ext.refl w⟩
  case round =>
    obtain ⟨k, n, rfl, rfl, rfl, hke, hts, hX⟩ := hrel
    clear hstart hg0
    by_cases hn : n = 0
    · subst hn
      have hk : Hid (k = p.length) := by
        obtain ⟨ts, e1, e2, -⟩ := hts.out
        obtain rfl := List.eq_nil_of_length_eq_zero e1
        have := congrArg List.length e2
        rw [List.length_take, Nat.min_eq_left (by have := hNh.out; omega)] at this
        show _ = _
        rw [this]; simp [flats]
      clear hts
      go_wp2_with fail
      go_returns
      exact ⟨by rw [hk.out]; rfl, hX⟩
    · obtain ⟨j, x, n', d, rfl, rfl, hx, hnew, hd, hd2, hnj⟩ : ∃ (j : Nat) (x : Vl) (n' d : Nat), k = j + 1 ∧ n = n' + 1 ∧ l[j]? = some x ∧ Hid (∃ ts : List Tr, ts.length = n' + d ∧ l.take j = p ++ flats ts ∧ (∀ x ∈ ts, x.good)) ∧ tkI x.1 = (d : Int) ∧ d ≤ 2 ∧ n' + d ≤ j := by
        obtain ⟨ts, e1, e2, e3⟩ := hts.out
        obtain ⟨j, x, us, n', d, h1, h2, h3, h4, h5, h6, h7, h8, h9⟩ := begin_step (by omega) (by have := hNh.out; omega) e2 e3
        exact ⟨j, x, n', d, h1, by omega, h3, ⟨us, h6, h4, h5⟩, h7, h8, h9⟩
      obtain ⟨b, o, rfl, -, hb, c0, c1, c2⟩ := hat.out j _ hx
      have k0 := cell_later hX c0
      have hbr : b < wr.heap.size := block_lt_of_cell k0
      have htk2 := hide (fun w => takes_c x.1 w)
      rw [hd] at htk2
      obtain ⟨xk, xn, xs⟩ := x
      simp only at k0 htk2
      clear hat hx hts c0 c1 c2 hd hNh
      have hwk : wrap64 (j : Int) = j := by unfold wrap64; omega
      have hj : (j : Int) < N := by omega
      have hposI : (0 : Int) < (n' : Int) + 1 := by omega
      go_wp2_with (first | (go_at_call 31; (with_reducible refine seq_gw (htk2.out _) ?_); intro g))
      go_roundg j
      case measure => omega
      case rel => exact ⟨j, n' + d, by go_num, (by first | go_num | (rw [Int.natCast_add]; congr 1; omega)), rfl, by omega, hnew, hX.trans g.grown⟩
end Go.Proofs.Ytopgapbipmblbaa
