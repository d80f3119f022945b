/-
  A helper of ours: no claim of its own. Layer 9 (step): jumps put together, by the code.
-/
import Derived.Test.YtkfhihnmlaomcaaGreatStepN
set_option linter.unusedVariables false
set_option linter.unusedSimpArgs false
namespace Go.Proofs.YtkfhihnmlaomcaaGreat
open Go.RowKit
attribute [local go_sem] GW.cell GW.frozen In.eq_true In.le_true In.ne In.ne' In.ne_add In.ne_add' In.lt_add Upto.le_true Upto.le_add Upto.lt_add
theorem ps_set (l : List Jp) (i : Nat) (x : Jp) (hi : i < l.length) : ps (l.set i x) = ((ps l).set (i * 2) (.int .i64 x.1)).set (i * 2 + 1) (.int .i64 x.2) := by
  induction l generalizing i with
  | nil => simp at hi
  | cons a r ih =>
    rcases i with _ | i
    · simp [ps]
    · have := ih i (by simpa using hi)
      rw [List.set_cons_succ, show ps (a :: r.set i x) = .int .i64 a.1 :: .int .i64 a.2 :: ps (r.set i x) from rfl, this, show ps (a :: r) = .int .i64 a.1 :: .int .i64 a.2 :: ps r from rfl, show (i + 1) * 2 = i * 2 + 1 + 1 by omega, show i * 2 + 1 + 1 + 1 = i * 2 + 1 + 1 + 1 from rfl]
      rfl
theorem ps_set_last (m : List Jp) (y : Jp) (z : Int) : (ps (m ++ [y])).set (m.length * 2 + 1) (.int .i64 z) = ps (m ++ [(y.1, z)]) := by
  induction m with
  | nil => simp [ps]
  | cons a r ih =>
    rw [List.cons_append, List.cons_append, show ps (a :: (r ++ [y])) = .int .i64 a.1 :: .int .i64 a.2 :: ps (r ++ [y]) from rfl, show ps (a :: (r ++ [(y.1, z)])) = .int .i64 a.1 :: .int .i64 a.2 :: ps (r ++ [(y.1, z)]) from rfl, ← ih, List.length_cons, show (r.length + 1) * 2 + 1 = r.length * 2 + 1 + 1 + 1 by omega]
    rfl
theorem ps_last (m : List Jp) (y : Jp) : (ps (m ++ [y]))[m.length * 2]? = some (.int .i64 y.1) ∧ (ps (m ++ [y]))[m.length * 2 + 1]? = some (.int .i64 y.2) := ps_get _ m.length y (by simp)
theorem own_block {w : World} {B : Nat} {v : Value} {l : List Jp} (h : OwnJ w B v l) (hne : l ≠ []) : ∃ g cap, v = .slice (some ⟨g, 0, none⟩) l.length cap ∧ B ≤ g ∧ g < w.heap.size := by
  have hpos := List.length_pos_iff.2 hne
  rcases h.2 with ⟨_, hz⟩ | ⟨g, cap, cur, rfl, hb, hg, hn, hc, hcs, ht⟩
  · omega
  · exact ⟨g, cap, rfl, hb, lt_of_block hg⟩
set_option maxHeartbeats 8000000 in
set_option maxRecDepth 100000 in
theorem addedUp_c (s : List Jp) (hs : s.Pairwise fun a b => a.1 ≤ b.1) (hb : ∀ j ∈ s, -1048576 ≤ j.2 ∧ j.2 ≤ 1048576) (hn : s.length ≤ 4096) (v : Value) (w : World) (h : Jw w [] v s) : Calls Tryz.prog 109 #[v] w fun e w' => ∃ v', e = .returned v' ∧ OwnJ w' w.heap.size v' (addup s) ∧ Ext w w' := by
  obtain ⟨A, cap, rfl, hl, hm, hat⟩ := jw_form h
  unfold maxLen at hm
  replace hat := hide hat
  have hnI : (s.length : Int) ≤ 4096 := by omega
  have hnd := hide hn
  have hbd := hide hb
  have hsd := hide hs
  clear h hb hs
  obtain ⟨R, hR⟩ : ∃ R, R = addup s := ⟨_, rfl⟩
  rw [← hR]
  replace hR := hide hR
  go_enter Tryz.func109, Tryz.ntmps109
  go_wp2_with fail
  go_loopg [3, 9] s.length (fun gh u i wr => ∃ (k : Nat) (acc : List Jp), i = .int .i64 k ∧ k + gh = s.length ∧ OwnJ wr w.heap.size u acc ∧ acc.length ≤ k ∧ Hid (acc = addup (s.take k)) ∧ Ext w wr)
  case atStart => exact ⟨0, [], rfl, by omega, World.ownsRow_nil _ _ _ _, Nat.le_refl _, rfl, Ext.refl w⟩
  case round =>
    obtain ⟨k, acc, rfl, hk, ho, hak, hacc, hX⟩ := hrel
    have hzX := hX.size
    by_cases hlt : k < s.length
    · obtain ⟨x, hx⟩ : ∃ x, s[k]? = some x := ⟨_, List.getElem?_eq_getElem hlt⟩
      obtain ⟨b, o, rfl, -, hbl, c0, c1⟩ := hat.out k x hx
      have k0 := jcell_later hX c0
      have k1 := jcell_later hX c1
      have hbr : b < wr.heap.size := block_lt_of_cell k0
      haveI : In b wr := ⟨hbr⟩
      obtain ⟨n1, n2⟩ := hbd.out x (List.mem_of_getElem? hx)
      have hnx : addup (s.take (k + 1)) = addS acc x := by rw [take_snoc hx, addup_snoc, hacc.out]
      have hinv := addup_inv 1048576 (by omega) (s.take k).length (s.take k) rfl (hsd.out.sublist (List.take_sublist _ _)) (fun j hj => hbd.out j (List.mem_of_mem_take hj))
      rw [← hacc.out] at hinv
      have hbacc : ∀ j ∈ acc, -4294967296 ≤ j.2 ∧ j.2 ≤ 4294967296 := fun j hj => by
        have h1 := hinv.2.2.2 j hj
        have h2 : (s.take k).length ≤ 4096 := by rw [List.length_take]; have := hnd.out; omega
        omega
      clear hinv c0 c1 hx hacc
      obtain ⟨xp, xn⟩ := x
      simp only at n1 n2 k0 k1
      rcases snoc_cases acc with rfl | ⟨m, y, rfl⟩
      · rw [addS_nil] at hnx
        replace hnx := hide hnx
        obtain ⟨C, ccap, rfl⟩ := own_form ho
        replace ho := hide ho
        clear hbacc
        go_wp2_with fail
        go_quiet (fail)
        go_wp2_with (at_builtin; (refine wpl_app tJmp rfl (.tmp 38) (.tmp 40) rfl rfl (own_ext ho.out ((((Ext.refl wr).alloc _).drewN _).alloc _)) rfl (src_jmpAt Tryz.underlying22 _ _ (by simp) (xp, xn) _) (by unfold maxLen; simp only [List.length_nil]; omega) (by simp only [List.length_nil]; omega) (by simp; omega) ?_; intro v7 w7 ho7 hg7 _))
        go_roundg (s.length - (k + 1))
        case measure => omega
        case rel => exact ⟨k + 1, [(xp, xn)], by go_num, by omega, (by have := own_appJ (l := []) ho7; simpa using this), by simp, hnx.out.symm, ext_grown (((hX.alloc _).drewN _).alloc _) hg7 (fun k hk => (ho.out.lt k hk).1)⟩
      · obtain ⟨g, ccap, rfl, hgB, hgl⟩ := own_block ho (by simp)
        unfold OwnJ at ho
        rw [show (m ++ [y]).length = m.length + 1 by simp] at ho ⊢
        haveI : In g wr := ⟨hgl⟩
        obtain ⟨q0, q1⟩ := ps_last m y
        have y0 := (World.ownsRow.cellAt ho (m.length * 2) (show m.length * 2 < (m.length + 1) * 2 by omega)).trans q0
        have y1 := (World.ownsRow.cellAt ho (m.length * 2 + 1) (show m.length * 2 + 1 < (m.length + 1) * 2 by omega)).trans q1
        have yf := World.ownsRow.frozenAt ho (m.length * 2 + 1)
        obtain ⟨z1, z2⟩ := hbacc y (by simp)
        obtain ⟨q, hq⟩ : ∃ q, q = m.length := ⟨_, rfl⟩
        have hak' : q + 1 ≤ k := by rw [List.length_append, List.length_singleton] at hak; omega
        rw [← hq] at y0 y1 yf ⊢
        have hqI : (q : Int) < (q : Int) + 1 := by omega
        have hq64 : q < 9223372036854775808 := by omega
        have hqh := hide hq
        replace ho := hide ho
        clear hq hak q0 q1 hbacc
        obtain ⟨yp, yn⟩ := y
        simp only at z1 z2 y0 y1
        by_cases hyx : yp = xp
        · subst hyx
          rw [addS_same m (yp, yn) (yp, xn) rfl] at hnx
          simp only at hnx
          replace hnx := hide hnx
          have hwq : IntKind.i64.wrap (yn + xn) = yn + xn := by simp [IntKind.wrap, IntKind.bits, IntKind.signed]; omega
          go_wp2_with fail
          go_quiet (fail)
          go_wp2_with fail
          refine wp_region_gw_tail 10 (by kernel_rfl) (by kernel_rfl) ?_
          simp only [List.take_succ_cons, List.take_zero, List.drop_succ_cons, List.drop_zero]
          repeat (go_big_quiet_step (fail))
          refine wpQuiet_nil ?_
          intro g7
          clear hwq
          go_wp2_with fail
          go_roundg (s.length - (k + 1))
          case measure => omega
          case rel =>
            have hX7 := (((Ext.refl wr).alloc (.cells #[.int .i64 yp, .int .i64 xn] 61)).drewN nq).trans g7.grown
            have ho7 := (World.ownsRow.stored (own_ext ho.out hX7) (m.length * 2 + 1) (.int .i64 (yn + xn))).1
            rw [ps_set_last] at ho7
            refine ⟨k + 1, m ++ [(yp, yn + xn)], by go_num, by omega, ?_, by rw [List.length_append, List.length_singleton, ← hqh.out]; omega, hnx.out.symm, (hX.trans hX7).setCell hgB _⟩
            unfold OwnJ
            rw [List.length_append, List.length_singleton, ← hqh.out]
            rw [← hqh.out] at ho7
            exact ho7
        · have hyb : (yp == xp) = false := by simp [hyx]
          rw [addS_other m (yp, yn) (xp, xn) hyx] at hnx
          replace hnx := hide hnx
          replace hyx := hide hyx
          go_wp2_with fail
          go_quiet (fail)
          go_wp2_with (at_builtin; (refine wpl_app tJmp rfl (.tmp 38) (.tmp 40) rfl rfl (own_ext (show OwnJ wr w.heap.size (.slice (some ⟨g, 0, none⟩) (q + 1) ccap) (m ++ [(yp, yn)]) by unfold OwnJ; rw [List.length_append, List.length_singleton]; rw [hqh.out]; exact ho.out) ((((Ext.refl wr).alloc _).drewN _).alloc _)) rfl (src_jmpAt Tryz.underlying22 _ _ (by simp) (xp, xn) _) (by unfold maxLen; rw [List.length_append, List.length_singleton, ← hqh.out]; omega) (by rw [List.length_append, List.length_singleton, ← hqh.out]; omega) (by simp; omega) ?_; intro v7 w7 ho7 hg7 _))
          go_roundg (s.length - (k + 1))
          case measure => omega
          case rel => exact ⟨k + 1, m ++ [(yp, yn)] ++ [(xp, xn)], by go_num, by omega, own_appJ ho7, by rw [List.length_append, List.length_append, List.length_singleton, List.length_singleton, ← hqh.out]; omega, hnx.out.symm, ext_grown (((hX.alloc _).drewN _).alloc _) hg7 (fun k hk => by cases hk; exact hgB)⟩
    · have hk' : k = s.length := by omega
      have hge : (s.length : Int) ≤ k := by omega
      have hR2 : Hid (R = acc) := by show _ = _; have := hacc.out; rw [hk', List.take_length] at this; rw [hR.out]; exact this.symm
      replace hk' := hide hk'
      clear hacc hR
      obtain ⟨C, ccap, rfl⟩ := own_form ho
      replace ho := hide ho
      go_wp2_with fail
      go_returns
      rw [hR2.out]
      exact ⟨_, rfl, ho.out, hX⟩
end Go.Proofs.YtkfhihnmlaomcaaGreat
