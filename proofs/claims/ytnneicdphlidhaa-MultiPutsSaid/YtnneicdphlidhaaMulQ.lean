/-
  A helper of ours: no claim of its own. Layer 24 (multi): All; a Put beside other objects.
-/
import Derived.Test.YtnneicdphlidhaaMulP
import Derived.Lib.AppendZerosOnto
import Derived.Lib.LazyBuf
import Derived.WalkLawsBesides
set_option linter.unusedVariables false
set_option linter.unusedSimpArgs false
namespace Go.Proofs.Ytnneicdphlidhaa
open Go.RowKit
attribute [local go_sem] GW.cell GW.frozen In.eq_true In.le_true In.ne In.ne' In.ne_add In.ne_add' In.lt_add Upto.le_true Upto.le_add Upto.lt_add
theorem mown_app {w : World} {B : Nat} {v : Value} {l m : List Tg} (h : w.ownsRow B 69 2 v (l.length + m.length) (tgs l ++ tgs m)) : w.ownsRow B 69 2 v (l ++ m).length (tgs (l ++ m)) := by
  rw [List.length_append, tgs_app]; exact h
set_option maxHeartbeats 1000000 in
set_option maxRecDepth 100000 in
theorem mclone_c (l : List Tg) (v : Value) (w : World) (h : Thw w [] v l) (hz : l.length ≤ 1048576) : Calls Try.prog 35 #[v] w fun e w' => ∃ v', e = .returned v' ∧ w'.ownsRow w.heap.size 69 2 v' l.length (tgs l) ∧ Ext w w' := by
  obtain ⟨A, cap, rfl, hl, hm, -⟩ := thw_form h
  have hq := fun w => Lib.run_eql_slice_nil (P := Try.prog) w 63 69 A l.length cap 0 0 Try.underlying63
  cases A with
  | none =>
    have hl0 : l = [] := by
      obtain ⟨A', cap', e, _, _, h3, h4⟩ := h
      rcases h4 with h4 | ⟨b, o, rfl, _⟩
      · have := congrArg List.length h4; rw [tgs_length] at this; exact List.eq_nil_of_length_eq_zero (by simp at this; omega)
      · cases e
    subst hl0
    clear h hq
    have hq0 := fun w => Lib.run_eql_slice_nil (P := Try.prog) w 63 69 none 0 cap 0 0 Try.underlying63
    show Calls Try.prog 35 #[.slice none 0 cap] w fun e w' => ∃ v', e = .returned v' ∧ w'.ownsRow w.heap.size 69 2 v' 0 [] ∧ Ext w w'
    go_enter Try.func35, Try.ntmps35
    go_wp2_with fail
    go_returns
    exact ⟨_, rfl, World.ownsRow_nil _ _ _ _, Ext.refl w⟩
  | some a =>
    have hlit := hide (World.ownsRow_lit (base := w.heap.size) (e := 69) (size := 2) w #[] 0 (Nat.le_refl _) (by decide) rfl)
    have hv := hide h
    clear h
    go_enter Try.func35, Try.ntmps35
    go_wp2_with (at_builtin; (refine wpl_app tThing rfl (.tmp 5) (.tmp 6) rfl rfl hlit.out rfl (src_sl Try.underlying63 (Sl.ext hv.out ((Ext.refl w).alloc _)) (tgs_one _) (by omega)) (by unfold maxLen; omega) (by omega) (by simp) ?_; intro v1 w1 ho1 hg1 _))
    go_returns
    have ho2 := mown_app (l := []) ho1
    exact ⟨_, rfl, by simpa using ho2, ext_grown ((Ext.refl w).alloc _) hg1 (fun k hk => (hlit.out.lt k hk).1)⟩
set_option maxHeartbeats 2000000 in
theorem mallM (W0 w : World) (b : Nat) (l : List Tg) (c : Int) (h : Ml W0 w b l c) : Calls Try.prog 21 #[.pointer (some ⟨b, 0, none⟩)] w fun e w' => ∃ bx v', e = .returned (.func (.func 44) #[] #[.pointer (some ⟨bx, 0, none⟩)]) ∧ Ob w' bx 63 [v'] ∧ Thw w' [] v' l ∧ Ext w w' := by
  obtain ⟨v, hm, hg, hX⟩ := h
  have c1 := hm.ob.cell 1 rfl
  have hcl := hide (mclone_c l v w (Sl.own hm.own (by simp)) hg.len)
  have hea := hide (fun A n cap w' => each_c A n cap w')
  obtain ⟨A, cap, rfl⟩ := own_form hm.own
  clear hm hg hX
  go_enter Try.func21, Try.ntmps21
  go_wp2_with (first
    | (go_at_call 35; (with_reducible refine hcl.out.mono ?_); rintro ee w1 ⟨v1, rfl, ho1, hX1⟩; obtain ⟨A1, cap1, q1⟩ := own_form ho1; subst q1; replace ho1 := hide ho1; replace hX1 := hide hX1)
    | (go_at_call 34; (with_reducible refine (hea.out _ _ _ _).mono ?_); rintro ee w2 ⟨bx, rfl, hb2, hle2, hX2⟩; replace hb2 := hide hb2; replace hX2 := hide hX2))
  go_returns
  exact ⟨_, _, rfl, hb2.out, Sl.ext (Sl.own ho1.out (by simp)) hX2.out, hX1.out.trans hX2.out⟩
theorem mputF (k n : Int) (W0 w : World) (b : Nat) (l : List Tg) (c : Int) (h : Ml W0 w b l c) : Calls Try.prog 12 #[.pointer (some ⟨b, 0, none⟩), .int .i64 k, .int .i64 n] w fun e w' => e = .returned (.int .i64 (putE k n l c)) ∧ Ml W0 w' b (putL k n l c) (putC k n l c) ∧
    ∀ C T vs, Ob w C T vs → T ≠ 65 → T ≠ 69 → Ob w' C T vs := by
  obtain ⟨v, hm, hg, hX⟩ := h
  refine (mput_c k n _ b v l c w hm hg.rise hg.len hg.nonneg (ofT_good hg) (b :: v.ownBlock.toList) (by simp) (fun x hx => by simp [hx]) (fun x hx => ?_)).mono ?_
  · rcases List.mem_cons.1 hx with rfl | hx
    · exact hm.ob.lt
    · exact (World.ownsRow.lt hm.own x (by simpa using hx)).2
  · rintro e w' ⟨rfl, v', hM', hF, -⟩
    refine ⟨rfl, ⟨v', hM', good_put hg, ext_fr hX hF fun x hx => ?_⟩, fun C T vs hO h1 h2 => hO.fr hF fun hC => ?_⟩
    · rcases List.mem_cons.1 hx with rfl | hx
      · exact hm.le
      · exact (World.ownsRow.lt hm.own x (by simpa using hx)).1
    · rcases List.mem_cons.1 hC with hC | hC
      · exact Ob.ne hO hm.ob h1 hC
      · exact Ob.not_own hO hm.own (fun e => h2 e.symm) (by simpa using hC)
theorem mown_fr {w w' : World} {S : List Nat} {B e size n : Nat} {v : Value} {xs : List Value} (h : w.ownsRow B e size v n xs) (k : Fr S w w') (hne : ∀ r, v.ownBlock = some r → r ∉ S) : w'.ownsRow B e size v n xs :=
  ⟨h.1, h.2.imp id fun ⟨g, cap, cur, e, hb, hg, rest⟩ => ⟨g, cap, cur, e, hb, (k.block g (lt_of_block hg) (hne g (by rw [e]; rfl))).trans hg, rest⟩⟩
/-- A thing that is told, and how many copies there are of it. -/
theorem ofT_at {l : List Tg} {c : Int} (h : Good l c) {k : Nat} {x : Tg} (hx : l[k]? = some x) : ofT x.1 l = x.2 := by
  obtain ⟨a, r, rfl, hl⟩ : ∃ a r, l = a ++ x :: r ∧ a.length = k := by
    obtain ⟨hk, e⟩ := List.getElem?_eq_some_iff.1 hx
    refine ⟨l.take k, l.drop (k + 1), ?_, by rw [List.length_take]; omega⟩
    rw [← e, List.getElem_cons_drop, List.take_append_drop]
  obtain ⟨h1, h2, h3⟩ := List.pairwise_append.1 h.rise
  obtain ⟨h4, h5⟩ := List.pairwise_cons.1 h2
  exact (at_mid (n := x.2) h1 h5 (fun y hy => h3 y hy x (by simp)) h4).2
theorem sum_take {l : List Tg} {k : Nat} {x : Tg} (hx : l[k]? = some x) : sumT (l.take (k + 1)) = sumT (l.take k) + x.2 := by
  rw [List.take_add_one, hx, sumT_app]; simp [sumT]
theorem sum_pre_le : ∀ (l : List Tg) (k : Nat), (∀ x ∈ l, 1 ≤ x.2) → 0 ≤ sumT (l.take k) ∧ sumT (l.take k) ≤ sumT l
  | [], k, _ => by simp [sumT]
  | p :: r, 0, h => by have := len_sum (p :: r) h; simp [sumT] at this ⊢; omega
  | p :: r, k + 1, h => by
    have h1 := h p (by simp)
    have := sum_pre_le r k (fun x hx => h x (by simp [hx]))
    rw [List.take_succ_cons, sumT, sumT]; omega
end Go.Proofs.Ytnneicdphlidhaa
