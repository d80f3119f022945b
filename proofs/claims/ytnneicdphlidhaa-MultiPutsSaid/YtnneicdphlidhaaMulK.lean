/-
  A helper of ours: no claim of its own. Layer 24 (multi): what is ranged over (each), New.
-/
import Derived.Test.YtnneicdphlidhaaMulJ
import Derived.Test.YtnneicdphlidhaaRfw
set_option linter.unusedVariables false
set_option linter.unusedSimpArgs false
namespace Go.Proofs.Ytnneicdphlidhaa
open Go.RowKit
attribute [local go_sem] GW.cell GW.frozen In.eq_true In.le_true In.ne In.ne' In.ne_add In.ne_add' In.lt_add Upto.le_true Upto.le_add Upto.lt_add Oper.semAt_some wide_depth wide_fn
theorem mcell_later {W w : World} (h : Ext W w) {a : Addr} {v : Value} (hc : W.cell? a = some v) : w.cell? a = some v := (World.cell?_of_block (a := a) (h.block a.block (block_lt_of_cell hc))).trans hc
/-- Things, where they lie. -/
abbrev Thw (w : World) (S : List Nat) (v : Value) (l : List Tg) : Prop := Sl w S 2 v l.length (tgs l)
theorem thw_form {w : World} {S : List Nat} {v : Value} {l : List Tg} (h : Thw w S v l) : ∃ A cap, v = .slice A l.length cap ∧ l.length ≤ cap ∧ cap ≤ maxLen ∧
    ∀ (i : Nat) (x : Tg), l[i]? = some x → ∃ b o, A = some ⟨b, o, none⟩ ∧ b ∉ S ∧ b < w.heap.size ∧ w.cell? ⟨b, o + i * 2, none⟩ = some (.int .i64 x.1) ∧ w.cell? ⟨b, o + i * 2 + 1, none⟩ = some (.int .i64 x.2) := by
  obtain ⟨A, cap, rfl, h1, h2, h3, h4⟩ := h
  refine ⟨A, cap, rfl, h1, h2, fun i x hx => ?_⟩
  obtain ⟨g0, g1⟩ := tgs_get l i x hx
  rcases h4 with h4 | ⟨b, o, rfl, hb, hc⟩
  · rw [h4] at g0; cases g0
  · have c0 := hc _ _ g0
    have c1 := hc _ _ g1
    exact ⟨b, o, rfl, hb, block_lt_of_cell c0, c0, c1⟩
set_option maxHeartbeats 1000000 in
theorem mnew_c (w : World) : Calls Try.prog 9 #[cmpF] w fun e w' => e = .returned (.pointer (some ⟨w.heap.size, 0, none⟩)) ∧ Mu w' w.heap.size w.heap.size (.slice none 0 0) [] 0 ∧ Ext w w' := by
  go_enter Try.func9, Try.ntmps9
  go_wp2_with fail
  go_returns
  exact ⟨rfl, ⟨Ob.new w _ [_, _, _], World.ownsRow_nil _ _ _ _, Nat.le_refl _⟩, (Ext.refl w).alloc _⟩
set_option maxHeartbeats 1000000 in
theorem each_c (A : Option Addr) (n cap : Nat) (w : World) : Calls Try.prog 34 #[.slice A n cap] w fun e w' => ∃ b, e = .returned (.func (.func 44) #[] #[.pointer (some ⟨b, 0, none⟩)]) ∧ Ob w' b 63 [.slice A n cap] ∧ w.heap.size ≤ b ∧ Ext w w' := by
  go_enter Try.func34, Try.ntmps34
  go_wp2_with fail
  go_returns
  exact ⟨_, rfl, Ob.new w _ [.slice A n cap], Nat.le_refl _, (Ext.refl w).alloc _⟩
set_option maxHeartbeats 4000000 in
set_option maxRecDepth 100000 in
theorem each_seq (l : List Tg) (v : Value) (w0 w : World) (b : Nat) (hC : Thw w0 [] v l) (hX : Ext w0 w) (hb : Ob w b 63 [v]) :
    Seqs Try.prog w0.heap.size 44 #[.pointer (some ⟨b, 0, none⟩)] (fun (x : Tg) vs _ => vs = #[.int .i64 x.1, .int .i64 x.2]) l w := by
  intro L J Jx W hW hJ hJx hY h0
  obtain ⟨A, cap, rfl, hlc, hlm, hat⟩ := thw_form hC
  unfold maxLen at hlm
  replace hat := hide hat
  have q0 := (hb.ext hW).cell 0 rfl
  have hz0 := hX.size
  have hz1 := hW.size
  replace hW := hide (hX.trans hW)
  have hJ' := hide hJ
  have hY' := hide hY
  clear hJ hY hb hC hX
  refine (callsIn_wide (n := 1)).1 ?_
  refine callsIn_of_wp Try.func44 rfl trivial ?_ rfl
  simp only [Try.ntmps44, List.size_toArray, List.length_cons, List.length_nil, Nat.reduceAdd, Nat.reduceSub, Array.replicate_succ, Array.replicate_zero, List.push_toArray, List.append_toArray, List.nil_append, List.cons_append]
  gi_wp2
  gi_loopw [7] (fun i wr => ∃ k : Nat, i = .int .i64 k ∧ k ≤ l.length ∧ Hid (J k wr) ∧ Below w0.heap.size W wr) (fun i _ => l.length - (intOf i).toNat)
  case atStart => exact ⟨0, rfl, Nat.zero_le _, h0, Below.refl _ _⟩
  case round =>
    obtain ⟨k, rfl, hk, hJk, hB⟩ := hrel
    by_cases hlt : k < l.length
    · obtain ⟨x, hx⟩ : ∃ x, l[k]? = some x := ⟨_, List.getElem?_eq_getElem hlt⟩
      obtain ⟨b', o', rfl, -, hb', c0, c1⟩ := hat.out k x hx
      have k0 := (hB.cell (p := ⟨b', o' + k * 2, none⟩) hb').trans (mcell_later hW.out c0)
      have k1 := (hB.cell (p := ⟨b', o' + k * 2 + 1, none⟩) hb').trans (mcell_later hW.out c1)
      have hbr : b' < wr.heap.size := block_lt_of_cell k0
      obtain ⟨xn, xk⟩ := x
      obtain ⟨fn, tmps, assign, body, hy, hR⟩ := hY'.out k (xn, xk) #[.int .i64 xn, .int .i64 xk] (wr.alloc (.cells #[.int .i64 xn, .int .i64 xk] 69)) hx (hJ'.out _ _ _ hJk.out ((Ext.refl wr).alloc _)) rfl
      have hzB := hB.size
      replace hR := hide hR
      clear c0 c1 hat hx q0
      gi_wp2
      refine hR.out.mono ?_
      rintro e W3 (⟨rfl, hJ3, hk3⟩ | ⟨rfl, hJx3⟩)
      · replace hJ3 := hide hJ3
        replace hk3 := hide hk3
        gi_wp2
        go_roundw
        case rel => exact ⟨k + 1, by go_num, by omega, hJ3, hB.trans ((Below.alloc (Below.refl _ _) (by omega) _).trans hk3.out)⟩
        case measure => simp [intOf]; omega
      · replace hJx3 := hide hJx3
        gi_wp2
        refine bodyPost_ret (results_none rfl _ _ _) rfl ?_
        exact ⟨⟨_, rfl⟩, .inr ⟨k + 1, by omega, hJx3.out⟩⟩
    · have hk' : k = l.length := by omega
      have hge : (l.length : Int) ≤ k := by omega
      have hJe : Hid (J l.length wr) := by show J _ wr; rw [← hk']; exact hJk.out
      replace hk' := hide hk'
      clear q0
      gi_wp2
      go_end0
      exact ⟨⟨_, rfl⟩, .inl hJe.out⟩
end Go.Proofs.Ytnneicdphlidhaa
