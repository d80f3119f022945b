/-
  A helper of ours: no claim of its own. Layer 6 (row): values picked out of rows, on both sides.
-/
import Derived.Test.YtbapkkijfmdcoaaRowE
set_option linter.unusedVariables false
set_option linter.unusedSimpArgs false
namespace Go.Proofs.Ytbapkkijfmdcoaa
open Go.RowKit
attribute [local go_sem] GW.cell GW.frozen In.eq_true In.le_true In.ne In.ne' In.ne_add In.ne_add' In.lt_add Upto.le_true Upto.le_add Upto.lt_add
theorem ic_form {w : World} {S : List Nat} {v : Value} {l : List Int} (h : Sl w S 1 v l.length (ic l)) : ∃ A cap, v = .slice A l.length cap ∧ l.length ≤ cap ∧ cap ≤ maxLen ∧
    ∀ (i : Nat) (x : Int), l[i]? = some x → ∃ b o, A = some ⟨b, o, none⟩ ∧ b ∉ S ∧ b < w.heap.size ∧ w.cell? ⟨b, o + i, none⟩ = some (.int .i64 x) := by
  obtain ⟨A, cap, rfl, h1, h2, h3, h4⟩ := h
  refine ⟨A, cap, rfl, h1, h2, fun i x hx => ?_⟩
  have hg : (ic l)[i]? = some (.int .i64 x) := by simp [ic, hx]
  rcases h4 with h4 | ⟨b, o, rfl, hb, hc⟩
  · rw [h4] at hg; cases hg
  · have c0 := hc _ _ hg
    exact ⟨b, o, rfl, hb, block_lt_of_cell c0, c0⟩
theorem src_val {P : Program} {tx e' : TypeId} (hk : P.underlying tx = some (.slice e')) (w : World) (x : Vl) (E : TypeId) : Src P 3 tx (.slice (some ⟨w.heap.size, 0, none⟩) 1 1) 1 (vc x) (w.alloc (.cells #[.int .i64 x.1, .int .i64 x.2.1, .string x.2.2] E)) :=
  Src.ofSlice _ hk _ 1 1 (vc x) (by simp [vc]) (fun j u hj => by
    have hj' : j < 3 := by
      have := (List.getElem?_eq_some_iff.1 hj).1
      simpa [vc] using this
    have hh := (Ob.new w E [.int .i64 x.1, .int .i64 x.2.1, .string x.2.2]).cell j hj
    rw [show (⟨w.heap.size, 0, none⟩ : Addr).add j = ⟨w.heap.size, j, none⟩ by rw [add_plain]; simp]
    exact hh) (by
    intro u hu
    exact rc_one [x] u (by simpa [rc] using hu))
/-- Values at columns: what is wrong, and the values. -/
def pkE (l : List Vl) : List Int → Int
  | [] => 0
  | c :: r => if c < 0 ∨ (l.length : Int) ≤ c then 3 else pkE l r
def pkV (l : List Vl) (cs : List Int) : List Vl := cs.flatMap fun c => (l[c.toNat]?).toList
def pickE (l : List Vl) (cs : List Int) : Int := if mayR l then (if 8 < cs.length then 6 else pkE l cs) else 2
def pickV (l : List Vl) (cs : List Int) : List Vl := if pickE l cs = 0 then pkV l cs else []
theorem pkV_snoc (l : List Vl) (cs : List Int) (c : Int) {x : Vl} (h : l[c.toNat]? = some x) : pkV l (cs ++ [c]) = pkV l cs ++ [x] := by
  simp [pkV, h]
theorem pkV_len (l : List Vl) (cs : List Int) : (pkV l cs).length ≤ cs.length := by
  induction cs with
  | nil => simp [pkV]
  | cons c r ih =>
    have e : pkV l (c :: r) = (l[c.toNat]?).toList ++ pkV l r := by simp [pkV]
    rw [e, List.length_append, List.length_cons]
    have : (l[c.toNat]?).toList.length ≤ 1 := by cases l[c.toNat]? <;> simp
    omega
theorem pkE_cons_bad (l : List Vl) (c : Int) (r : List Int) (h : c < 0 ∨ (l.length : Int) ≤ c) : pkE l (c :: r) = 3 := if_pos h
theorem pkE_cons_ok (l : List Vl) (c : Int) (r : List Int) (h : ¬ (c < 0 ∨ (l.length : Int) ≤ c)) : pkE l (c :: r) = pkE l r := if_neg h
set_option maxHeartbeats 4000000 in
set_option maxRecDepth 100000 in
theorem rowPick_c (l : List Vl) (cs : List Int) (v u : Value) (w : World) (hl : Rw w [] v l) (hm : Sl w [] 1 u cs.length (ic cs)) : Calls Try.prog 26 #[v, u] w fun e w' => ∃ v', e = .returned (.tuple #[v', .int .i64 (pickE l cs)]) ∧ OwnR w' w.heap.size v' (pickV l cs) ∧ Ext w w' := by
  have h1 := hide (fun w' (hX : Ext w w') => rowMay_c l v w' (Sl.ext hl hX))
  have hX0 := hide (Ext.refl w)
  obtain ⟨A, cap, rfl, hlc, hlm, hat⟩ := rw_form hl
  obtain ⟨B, cap2, rfl, hmc, hmm, hbt⟩ := ic_form hm
  unfold maxLen at hlm hmm
  replace hat := hide hat
  replace hbt := hide hbt
  clear hl hm
  cases ha : mayR l
  · have e1 : pickE l cs = 2 := by unfold pickE; rw [ha]; rfl
    have e2 : pickV l cs = [] := by unfold pickV; rw [e1, if_neg (by decide)]
    rw [e1, e2]
    rw [ha] at h1
    clear ha e1 e2
    go_enter Try.func26, Try.ntmps26
    go_wp2_with (go_at_call 45; (with_reducible refine seq_gw (h1.out _ hX0.out) ?_); intro g)
    go_returns
    exact ⟨_, rfl, World.ownsRow_nil _ _ _ _, g.grown⟩
  rw [ha] at h1
  have l8 := (mayR_iff.1 ha).1
  by_cases h8 : 8 < cs.length
  · have e1 : pickE l cs = 6 := by unfold pickE; rw [if_pos ha, if_pos h8]
    have e2 : pickV l cs = [] := by unfold pickV; rw [e1, if_neg (by decide)]
    rw [e1, e2]
    have h8I : (8 : Int) < cs.length := by omega
    clear ha e1 e2
    go_enter Try.func26, Try.ntmps26
    go_wp2_with (go_at_call 45; (with_reducible refine seq_gw (h1.out _ hX0.out) ?_); intro g)
    go_returns
    exact ⟨_, rfl, World.ownsRow_nil _ _ _ _, g.grown⟩
  have h8I : (cs.length : Int) ≤ 8 := by omega
  obtain ⟨R, hR⟩ : ∃ R, R = pickE l cs := ⟨_, rfl⟩
  obtain ⟨V, hV⟩ : ∃ V, V = pickV l cs := ⟨_, rfl⟩
  rw [← hR, ← hV]
  have e1 : pickE l cs = pkE l cs := by unfold pickE; rw [if_pos ha, if_neg h8]
  have hV2 : Hid (V = if R = 0 then pkV l cs else []) := by rw [hV, hR]; rfl
  rw [e1] at hR
  replace hR := hide hR
  clear ha hV e1
  go_enter Try.func26, Try.ntmps26
  go_wp2_with (go_at_call 45; (with_reducible refine seq_gw (h1.out _ hX0.out) ?_); intro g)
  clear h1 hX0
  go_loopg [6, 17] cs.length (fun gh vv i wr => ∃ (k : Nat) (acc : List Vl), i = .int .i64 k ∧ k + gh = cs.length ∧ OwnR wr w.heap.size vv acc ∧ acc.length ≤ k ∧ Hid (acc = pkV l (cs.take k)) ∧ Hid (R = pkE l (cs.drop k)) ∧ Ext w wr)
  case atStart => exact ⟨0, [], rfl, by omega, World.ownsRow_nil _ _ _ _, Nat.le_refl _, (by show [] = pkV l (cs.take 0); simp [pkV]), (by show R = pkE l (cs.drop 0); simpa using hR.out), g.grown⟩
  case round =>
    obtain ⟨k, acc, rfl, hk, ho, hak, hacc, hRk, hX⟩ := hrel
    clear hR
    have hzX := hX.size
    by_cases hlt : k < cs.length
    · obtain ⟨c, hc⟩ : ∃ c, cs[k]? = some c := ⟨_, List.getElem?_eq_getElem hlt⟩
      obtain ⟨b', o', rfl, -, hb', d0⟩ := hbt.out k c hc
      have j0 := cell_later hX d0
      have hbr' : b' < wr.heap.size := block_lt_of_cell j0
      have hR2 := hRk.out
      rw [drop_cons hc] at hR2
      by_cases hbad : c < 0 ∨ (l.length : Int) ≤ c
      · rw [pkE_cons_bad l c _ hbad] at hR2
        have hV3 := hV2.out
        rw [hR2, if_neg (by decide)] at hV3
        replace hR2 := hide hR2
        replace hV3 := hide hV3
        clear hc d0 hRk
        by_cases hneg : c < 0
        · clear hbad
          go_wp2_with fail
          go_returns
          rw [hR2.out, hV3.out]
          exact ⟨_, rfl, World.ownsRow_nil _ _ _ _, hX⟩
        · have hge := hbad.resolve_left hneg
          clear hbad
          go_wp2_with fail
          go_returns
          rw [hR2.out, hV3.out]
          exact ⟨_, rfl, World.ownsRow_nil _ _ _ _, hX⟩
      · rw [pkE_cons_ok l c _ hbad] at hR2
        replace hR2 := hide hR2
        have hc0 : 0 ≤ c := by omega
        obtain ⟨q, rfl⟩ := Int.eq_ofNat_of_zero_le hc0
        have hq : q < l.length := by omega
        have hqI : (q : Int) < l.length := by omega
        obtain ⟨x, hx⟩ : ∃ x, l[q]? = some x := ⟨_, List.getElem?_eq_getElem hq⟩
        obtain ⟨b, o, rfl, -, hb, c0, c1, c2⟩ := hat.out q x hx
        have k0 := cell_later hX c0
        have k1 := cell_later hX c1
        have k2 := cell_later hX c2
        have hbr : b < wr.heap.size := block_lt_of_cell k0
        have hacc' : Hid (acc ++ [x] = pkV l (cs.take (k + 1))) := by
          show _ = _
          rw [List.take_add_one, hc, Option.toList_some, pkV_snoc l _ (q : Int) (x := x) (by simpa using hx), hacc.out]
        obtain ⟨xk, xn, xs⟩ := x
        clear hc d0 hRk hbad c0 c1 c2 hx hacc hc0
        go_wp2_with (at_builtin; (refine wpl_app tVal rfl (.tmp 29) (.tmp 34) rfl rfl (own_ext ho ((Ext.refl wr).alloc _)) rfl (src_val Try.underlying27 wr (xk, xn, xs) _) (by unfold maxLen; omega) (by omega) (by simp only [World.size_alloc]; omega) ?_; intro v2 w2 ho2 hg2 _))
        go_roundg (cs.length - (k + 1))
        case measure => omega
        case rel =>
          have ho3 : OwnR w2 w.heap.size v2 (acc ++ [(xk, xn, xs)]) := own_appR (m := [(xk, xn, xs)]) (by simpa [rc] using ho2)
          exact ⟨k + 1, acc ++ [(xk, xn, xs)], by go_num, by omega, ho3, by rw [List.length_append, List.length_singleton]; omega, hacc', hR2, ext_grown (hX.alloc _) hg2 (fun k hk => (ho.lt k hk).1)⟩
    · have hk' : k = cs.length := by omega
      have hge : (cs.length : Int) ≤ k := by omega
      have hR2 := hRk.out
      rw [List.drop_eq_nil_of_le (by omega)] at hR2
      replace hR2 : R = 0 := hR2
      have hV3 := hV2.out
      have hac := hacc.out
      rw [List.take_of_length_le (by omega)] at hac
      rw [hR2, if_pos rfl, ← hac] at hV3
      replace hR2 := hide hR2
      replace hV3 := hide hV3
      replace hk' := hide hk'
      clear hac
      go_wp2_with fail
      go_returns
      rw [hR2.out, hV3.out]
      exact ⟨_, rfl, ho, hX⟩
end Go.Proofs.Ytbapkkijfmdcoaa
