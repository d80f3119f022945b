/-
  A helper of ours: no claim of its own. Layer 11 (pack): Spans, by the document.
-/
import Derived.Test.YtljkneajdndgjaaGreatEdgS
import Derived.Test.YtljkneajdndgjaaGreatStepR
import Derived.Test.YtljkneajdndgjaaGreatEdgF
import Derived.Test.YtljkneajdndgjaaGreatStepE
set_option linter.unusedVariables false
set_option linter.unusedSimpArgs false
namespace Go.Proofs.YtljkneajdndgjaaGreat
open Go.RowKit
attribute [-go_sem] sliced
attribute [local go_sem] sliced_eq
attribute [local go_sem] GW.cell GW.frozen In.eq_true In.le_true In.ne In.ne' In.ne_add In.ne_add' In.lt_add Upto.le_true Upto.le_add Upto.lt_add
end Go.Proofs.YtljkneajdndgjaaGreat
set_option linter.unusedVariables false
set_option linter.unusedSimpArgs false
namespace Go.Proofs.YtljkneajdndgjaaGreat
open Go.RowKit
attribute [local go_sem] GW.cell GW.frozen In.eq_true In.le_true In.ne In.ne' In.ne_add In.ne_add' In.lt_add Upto.le_true Upto.le_add Upto.lt_add
theorem begL_pre (f : List Jp) (k : Nat) : (begL (f.take k)).length ≤ (begL f).length := by
  conv => rhs; rw [← List.take_append_drop k f]
  unfold begL
  rw [List.flatMap_append, List.length_append]
  omega
end Go.Proofs.YtljkneajdndgjaaGreat
set_option linter.unusedVariables false
set_option linter.unusedSimpArgs false
namespace Go.Proofs.YtljkneajdndgjaaGreat
open Go.RowKit
attribute [local go_sem] GW.cell GW.frozen In.eq_true In.le_true In.ne In.ne' In.ne_add In.ne_add' In.lt_add Upto.le_true Upto.le_add Upto.lt_add
theorem cntJ_pos (f : List Jp) : 0 ≤ cntJ f := by unfold cntJ; omega
end Go.Proofs.YtljkneajdndgjaaGreat
set_option linter.unusedVariables false
set_option linter.unusedSimpArgs false
namespace Go.Proofs.YtljkneajdndgjaaGreat
open Go.RowKit
attribute [local go_sem] GW.cell GW.frozen In.eq_true In.le_true In.ne In.ne' In.ne_add In.ne_add' In.lt_add Upto.le_true Upto.le_add Upto.lt_add
/-- Two slices of one's own: one grows, the other stays; they share no block. -/
theorem two_grow {w w1 : World} {B e1 e2 s1 s2 n1 n2 : Nat} {vb ve v1 : Value} {xs ys : List Value} (hb : w.ownsRow B e1 s1 vb n1 xs) (he : w.ownsRow B e2 s2 ve n2 ys) (hd : ∀ g, vb.ownBlock = some g → ve.ownBlock ≠ some g) (hg : w.grownBy w1 vb.ownBlock)
    (hv : v1.ownBlock = vb.ownBlock ∨ v1.ownBlock = some w.heap.size) : w1.ownsRow B e2 s2 ve n2 ys ∧ ∀ g, v1.ownBlock = some g → ve.ownBlock ≠ some g := by
  refine ⟨own_keep he fun g h => hg.block g ?_ fun e => hd g e.symm h, fun g h1 h2 => ?_⟩
  · obtain ⟨cur, hh⟩ := own_heap he h; exact lt_of_block hh
  · rcases hv with hv | hv
    · exact hd g (hv ▸ h1) h2
    · rw [hv] at h1
      obtain rfl := Option.some.inj h1
      obtain ⟨cur, hh⟩ := own_heap he h2
      exact Nat.lt_irrefl _ (lt_of_block hh)
set_option maxHeartbeats 8000000 in
set_option maxRecDepth 100000 in
theorem refSpans_c (f : List Jp) (v : Value) (w : World) (h : Jw w [] v f) : Calls Tryz.prog 65 #[v] w fun e w' => ∃ v', e = .returned (.tuple #[v', .int .i64 (spE f)]) ∧ OwnSp w' w.heap.size v' (spR f) ∧ Ext w w' := by
  have h1 := hide (fun w' (hX : Ext w w') => refStepMay_c f v w' (Sl.ext h hX))
  have h2 := hide (fun w' (hX : Ext w w') => refStepLeast_c f v w' (Sl.ext h hX))
  obtain ⟨A, cap, rfl, hlc, hmx, hat⟩ := jw_form h
  unfold maxLen at hmx
  replace hat := hide hat
  obtain ⟨E, hE⟩ : ∃ E, E = spE f := ⟨_, rfl⟩
  obtain ⟨R, hR⟩ : ∃ R, R = spR f := ⟨_, rfl⟩
  rw [← hE, ← hR]
  unfold spR at hR
  rw [← hE] at hR
  unfold spE at hE
  clear h
  cases ha : mayJ f
  · rw [ha, if_neg (by decide)] at hE
    rw [ha] at h1
    subst hE
    replace hR : R = [] := by rw [hR, if_neg (by decide)]
    subst hR
    go_enter Tryz.func65, Tryz.ntmps65
    go_wp2_with (go_at_call 114; (with_reducible refine seq_gw (h1.out _ (Ext.refl _)) ?_); intro g)
    go_returns
    exact ⟨_, rfl, World.ownsRow_nil _ _ _ _, g.grown⟩
  rw [ha, if_pos rfl] at hE
  rw [ha] at h1
  obtain ⟨z, hz⟩ : ∃ z, z = leV f := ⟨_, rfl⟩
  rw [← hz] at hE h2
  by_cases hn : z < 0
  · rw [if_pos hn] at hE
    subst hE
    replace hR : R = [] := by rw [hR, if_neg (by decide)]
    subst hR
    replace hz := hide hz
    go_enter Tryz.func65, Tryz.ntmps65
    go_wp2_with (first | (go_at_call 114; (with_reducible refine seq_gw (h1.out _ (Ext.refl _)) ?_); intro g) | (go_at_call 116; (with_reducible refine seq_gw' (h2.out _ g.grown) ?_); intro g2))
    go_returns
    exact ⟨_, rfl, World.ownsRow_nil _ _ _ _, g2.grown⟩
  rw [if_neg hn] at hE
  have hf8 := mayJ_len ha
  have hok := hide (mayJ_iff.1 ha).2.1
  have hle := hide (fun k => cntJ_le (f := f.take k) (fun j hj => by
    have := (mayJ_iff.1 ha).2.1 j (List.mem_of_mem_take hj)
    unfold okJ at this
    rw [decide_eq_true_iff] at this
    omega))
  have hEb : Hid (4096 < cntJ f → E = 7 ∧ R = []) := fun hb => by
    rw [if_pos hb] at hE
    subst hE
    exact ⟨rfl, by rw [hR, if_neg (by decide)]⟩
  have hEo : Hid (¬ 4096 < cntJ f → E = 0 ∧ R = lifeL f) := fun hb => by
    rw [if_neg hb] at hE
    subst hE
    exact ⟨rfl, by rw [hR, if_pos rfl]⟩
  replace hz := hide hz
  clear hE hR
  have hlit := hide (fun (W : World) => World.ownsRow_lit (base := W.heap.size) (e := 3) (size := 1) W #[] 0 (Nat.le_refl _) (by decide) rfl)
  have hlitS := hide (fun (W : World) => World.ownsRow_lit (base := W.heap.size) (e := 49) (size := 2) W #[] 0 (Nat.le_refl _) (by decide) rfl)
  go_enter Tryz.func65, Tryz.ntmps65
  go_wp2_with (first | (go_at_call 114; (with_reducible refine seq_gw (h1.out _ (Ext.refl _)) ?_); intro g) | (go_at_call 116; (with_reducible refine seq_gw' (h2.out _ g.grown) ?_); intro g2))
  have hzg := g2.grown.size
  obtain ⟨W1, hW1⟩ : ∃ W1, W1 = g2.val := ⟨_, rfl⟩
  have hX1 := hide (hW1 ▸ g2.grown : Ext w W1)
  rw [← hW1] at hzg ⊢
  clear hW1
  obtain ⟨Wc, hWc⟩ : ∃ Wc, Wc = (W1.alloc (.cells #[] 3)).alloc (.cells #[] 3) := ⟨_, rfl⟩
  have hb0 : Wc.ownsRow w.heap.size 3 1 (.slice (some ⟨W1.heap.size, 0, none⟩) 0 0) 0 [] := by rw [hWc]; exact own_base (own_ext (hlit.out W1) ((Ext.refl _).alloc _)) hzg
  have he0 : Wc.ownsRow w.heap.size 3 1 (.slice (some ⟨W1.heap.size + 1, 0, none⟩) 0 0) 0 [] := by
    rw [hWc]
    have := hlit.out (W1.alloc (.cells #[] 3))
    rw [World.size_alloc] at this
    exact own_base this (by omega)
  have hXc := hide (show Ext w Wc by rw [hWc]; exact (hX1.out.alloc _).alloc _)
  rw [← hWc]
  replace hb0 := hide hb0
  replace he0 := hide he0
  clear hWc
  go_loopg [6, 7] f.length (fun gh s i wr => ∃ (k : Nat) (y : Int), i = .int .i64 k ∧ k + gh = f.length ∧ s = .int .i64 y ∧ Hid (y = cntJ (f.take k)) ∧ wr = Wc)
  case atStart => exact ⟨0, 0, rfl, by omega, rfl, rfl, rfl⟩
  case round =>
    obtain ⟨k, y, rfl, hk, rfl, hy, rfl⟩ := hrel
    by_cases hlt : k < f.length
    · obtain ⟨⟨a, n⟩, hx⟩ : ∃ x, f[k]? = some x := ⟨_, List.getElem?_eq_getElem hlt⟩
      obtain ⟨b, o, rfl, -, hb, c0, c1⟩ := hat.out k _ hx
      have k1 := jcell_later hXc.out c1
      have hbr : b < wr.heap.size := block_lt_of_cell k1
      simp only at k1
      have hokx := hok.out _ (List.mem_of_getElem? hx)
      unfold okJ at hokx
      rw [decide_eq_true_iff] at hokx
      simp only at hokx
      have hnx : Hid (y + max n 0 = cntJ (f.take (k + 1))) := by
        show _ = _
        rw [List.take_add_one, hx, Option.toList_some, cntJ_snoc, hy.out]
      have hz0 : 0 ≤ y := by rw [hy.out]; exact cntJ_pos _
      have hz1 : y ≤ 1073741824 := by
        have h1 := hle.out k
        have h2 : (f.take k).length ≤ 1024 := by rw [List.length_take]; omega
        rw [← hy.out] at h1
        omega
      have hn1 : n ≤ 1048576 := hokx.2.2.2.1
      have hn2 : -1048576 ≤ n := hokx.2.2.2.2
      haveI : In b wr := ⟨hbr⟩
      clear c0 c1 hx hokx
      by_cases hn0 : 0 < n
      · rw [show max n 0 = n by omega] at hnx
        go_wp2_with fail
        go_roundg (f.length - (k + 1))
        case measure => omega
        case rel => exact ⟨k + 1, y + n, by go_num, by omega, by first | rfl | go_num, hnx, rfl⟩
      · rw [show max n 0 = 0 by omega, Int.add_zero] at hnx
        go_wp2_with fail
        go_roundg (f.length - (k + 1))
        case measure => omega
        case rel => exact ⟨k + 1, y, by go_num, by omega, by first | rfl | go_num, hnx, rfl⟩
    · have hge : (f.length : Int) ≤ k := by omega
      have hyy := hy.out
      rw [List.take_of_length_le (by omega)] at hyy
      rw [← hyy] at hEb hEo
      by_cases hbig : 4096 < y
      · have hf := hide (hEb.out hbig)
        clear hEb hEo hyy
        go_wp2_with fail
        go_returns
        exact ⟨_, by rw [hf.out.1]; rfl, by rw [hf.out.2]; exact World.ownsRow_nil _ _ _ _, hXc.out⟩
      have hf := hide (hEo.out (by omega))
      have hbl : Hid ((begL f).length ≤ 4096) := by show _ ≤ _; unfold cntJ at hyy; omega
      have hpre := hide (fun j => pre_ends ha (by have := hz.out; omega) j)
      replace hyy := hide hyy
      clear hEb hEo hy
      go_wp2_with fail
      go_loopg [4, 5, 8] f.length (fun gh ub ue i wr2 => ∃ (k : Nat), i = .int .i64 k ∧ k + gh = f.length ∧ OwnZ wr2 w.heap.size ub (begL (f.take k)) ∧ OwnZ wr2 w.heap.size ue (endL (f.take k)) ∧ Hid (∀ g, ub.ownBlock = some g → ue.ownBlock ≠ some g) ∧ Ext w wr2)
      case atStart => exact ⟨0, rfl, by omega, hb0.out, he0.out, (by intro g hg hg2; simp [Value.ownBlock] at hg hg2; omega), hXc.out⟩
      case round =>
        clear hb0 he0
        clear hXc
        obtain ⟨k, rfl, hk, hb, he, hd, hX⟩ := hrel
        obtain ⟨wo, hwo⟩ : ∃ wo, wo = wr := ⟨_, rfl⟩
        subst hwo
        have hzX := hX.size
        have hbl2 := Nat.le_trans (begL_pre f k) hbl.out
        have hel2 := Nat.le_trans (hpre.out k) hbl2
        by_cases hlt2 : k < f.length
        · obtain ⟨⟨a, n⟩, hx⟩ : ∃ x, f[k]? = some x := ⟨_, List.getElem?_eq_getElem hlt2⟩
          obtain ⟨b, o, rfl, -, hbw, c0, c1⟩ := hat.out k _ hx
          have k0 := hide c0
          have k1 := hide c1
          simp only at k0 k1
          have hokx := hok.out _ (List.mem_of_getElem? hx)
          unfold okJ at hokx
          rw [decide_eq_true_iff] at hokx
          simp only at hokx
          have hn1 : n ≤ 1048576 := hokx.2.2.2.1
          have hn2 : -1048576 ≤ n := hokx.2.2.2.2
          have et : f.take (k + 1) = f.take k ++ [(a, n)] := by rw [List.take_add_one, hx]; rfl
          have hbs := begL_snoc (f.take k) (a, n)
          have hes := endL_snoc (f.take k) (a, n)
          rw [← et] at hbs hes
          simp only at hbs hes
          have hbl3 := Nat.le_trans (begL_pre f (k + 1)) hbl.out
          have hel3 := Nat.le_trans (hpre.out (k + 1)) hbl3
          rw [hbs, List.length_append, List.length_replicate] at hbl3
          rw [hes, List.length_append, List.length_replicate] at hel3
          have hnx := hide (And.intro hbs hes)
          obtain ⟨bl, hbl0⟩ : ∃ bl, bl = begL (f.take k) := ⟨_, rfl⟩
          obtain ⟨el, hel0⟩ : ∃ el, el = endL (f.take k) := ⟨_, rfl⟩
          rw [← hbl0] at hb hbl2 hbl3 hnx
          rw [← hel0] at he hel2 hel3 hnx
          obtain ⟨CE, ce, rfl⟩ := own_form he
          replace hb := hide hb
          replace he := hide he
          clear c0 c1 hx hokx et hbs hes hbl0 hel0
          go_wp2_with fail
          go_loopg [4, 9] n.toNat (fun gh ub2 i2 wr3 => ∃ (q : Nat), i2 = .int .i64 q ∧ q + gh = n.toNat ∧ OwnZ wr3 w.heap.size ub2 (bl ++ List.replicate q a) ∧ OwnZ wr3 w.heap.size (.slice CE el.length ce) el ∧ Hid (∀ g, ub2.ownBlock = some g → (Value.slice CE el.length ce).ownBlock ≠ some g) ∧ Ext w wr3)
          case atStart => exact ⟨0, rfl, by omega, by simpa using hb.out, he.out, hd, hX⟩
          case round =>
            clear hb he hd
            obtain ⟨q, rfl, hq, hb, he, hd, hX3⟩ := hrel
            obtain ⟨wp, hwp⟩ : ∃ wp, wp = wr := ⟨_, rfl⟩
            subst hwp
            have j0 := cell_later hX3 k0.out
            have j1 := cell_later hX3 k1.out
            have hbr : b < _ := block_lt_of_cell j0
            haveI : In b _ := ⟨hbr⟩
            have hz3 := hX3.size
            have hbq : (bl ++ List.replicate q a).length = bl.length + q := by rw [List.length_append, List.length_replicate]
            by_cases hqn : (q : Int) < n
            · obtain ⟨b2, hb2⟩ : ∃ b2, b2 = bl ++ List.replicate q a := ⟨_, rfl⟩
              rw [← hb2] at hb hbq
              have hb3 := hide (show b2 ++ [a] = bl ++ List.replicate (q + 1) a by rw [hb2, List.replicate_succ', List.append_assoc])
              obtain ⟨CB, cb, rfl⟩ := own_form hb
              replace hb := hide hb
              replace he := hide he
              clear hb2
              go_wp2_with (at_builtin; (refine wpl_app tZ rfl (.tmp 58) (.tmp 64) rfl rfl (own_ext hb.out ((Ext.refl _).alloc _)) rfl (src_one Tryz.underlying78 _ (.int .i64 a) _ rfl) (by unfold maxLen; omega) (by omega) (by simp; omega) ?_; intro v8 w8 ho8 hg8 hv8; have ht8 := two_grow (own_ext hb.out ((Ext.refl _).alloc (.cells #[.int .i64 a] 3))) (own_ext he.out ((Ext.refl _).alloc (.cells #[.int .i64 a] 3))) hd.out hg8 hv8; have hX8 := ext_grown (hX3.alloc (.cells #[.int .i64 a] 3)) hg8 (fun x hx => (hb.out.lt x hx).1)))
              go_roundg (n.toNat - (q + 1))
              case measure => omega
              case rel => exact ⟨q + 1, by go_num, by omega, by rw [← hb3.out]; exact own_appZ ho8, ht8.1, ht8.2, hX8⟩
            · have hq' : q = n.toNat := by omega
              rw [hq'] at hb
              obtain ⟨CB, cb, rfl⟩ := own_form hb
              obtain ⟨b2, hb2⟩ : ∃ b2, b2 = bl ++ List.replicate n.toNat a := ⟨_, rfl⟩
              rw [← hb2] at hb hd hnx ⊢
              have hb2l : b2.length ≤ 200000 := by rw [hb2, List.length_append, List.length_replicate]; omega
              replace hb2 := hide hb2
              replace hq' := hide hq'
              replace hb := hide hb
              replace he := hide he
              go_wp2_with fail
              go_loopg [5, 10] (-n).toNat (fun gh ue2 i2 wr3 => ∃ (q : Nat), i2 = .int .i64 q ∧ q + gh = (-n).toNat ∧ OwnZ wr3 w.heap.size ue2 (el ++ List.replicate q a) ∧ OwnZ wr3 w.heap.size (.slice CB b2.length cb) b2 ∧ Hid (∀ g, ue2.ownBlock = some g → (Value.slice CB b2.length cb).ownBlock ≠ some g) ∧ Ext w wr3)
              case atStart => exact ⟨0, rfl, by omega, by simpa using he.out, hb.out, (fun g h1 h2 => hd.out g h2 h1), hX3⟩
              case round =>
                clear hb he hd hX3 j0 j1 hbr hz3
                obtain ⟨q, rfl, hq, he, hb, hd, hX3⟩ := hrel
                obtain ⟨ws, hws⟩ : ∃ ws, ws = wr := ⟨_, rfl⟩
                subst hws
                have j0 := cell_later hX3 k0.out
                have j1 := cell_later hX3 k1.out
                have hbr : b < _ := block_lt_of_cell j0
                haveI : In b _ := ⟨hbr⟩
                have hz3 := hX3.size
                have heq2 : (el ++ List.replicate q a).length = el.length + q := by rw [List.length_append, List.length_replicate]
                by_cases hqn2 : (q : Int) < -n
                · obtain ⟨e2, he2⟩ : ∃ e2, e2 = el ++ List.replicate q a := ⟨_, rfl⟩
                  rw [← he2] at he heq2
                  have he3 := hide (show e2 ++ [a] = el ++ List.replicate (q + 1) a by rw [he2, List.replicate_succ', List.append_assoc])
                  obtain ⟨CF, cf, rfl⟩ := own_form he
                  replace hb := hide hb
                  replace he := hide he
                  clear he2
                  go_wp2_with (at_builtin; (refine wpl_app tZ rfl (.tmp 76) (.tmp 82) rfl rfl (own_ext he.out ((Ext.refl _).alloc _)) rfl (src_one Tryz.underlying78 _ (.int .i64 a) _ rfl) (by unfold maxLen; omega) (by omega) (by simp; omega) ?_; intro v8 w8 ho8 hg8 hv8; have ht8 := two_grow (own_ext he.out ((Ext.refl _).alloc (.cells #[.int .i64 a] 3))) (own_ext hb.out ((Ext.refl _).alloc (.cells #[.int .i64 a] 3))) hd.out hg8 hv8; have hX8 := ext_grown (hX3.alloc (.cells #[.int .i64 a] 3)) hg8 (fun x hx => (he.out.lt x hx).1)))
                  go_roundg ((-n).toNat - (q + 1))
                  case measure => omega
                  case rel => exact ⟨q + 1, by go_num, by omega, by rw [← he3.out]; exact own_appZ ho8, ht8.1, ht8.2, hX8⟩
                · have hq3 : q = (-n).toNat := by omega
                  rw [hq3] at he
                  obtain ⟨e2, he2⟩ : ∃ e2, e2 = el ++ List.replicate (-n).toNat a := ⟨_, rfl⟩
                  rw [← he2] at he hnx
                  obtain ⟨CF, cf, rfl⟩ := own_form he
                  replace he2 := hide he2
                  replace hq3 := hide hq3
                  replace hb := hide hb
                  replace he := hide he
                  go_wp2_with fail
                  go_roundg (f.length - (k + 1))
                  case measure => omega
                  case rel => exact ⟨k + 1, by go_num, by omega, by rw [hnx.out.1]; exact hb.out, by rw [hnx.out.2]; exact he.out, (fun g h1 h2 => hd.out g h2 h1), hX3⟩
        · have hge2 : (f.length : Int) ≤ k := by omega
          rw [List.take_of_length_le (by omega)] at hb he hbl2 hel2
          have hpl := hpre.out f.length
          rw [List.take_of_length_le (Nat.le_refl _)] at hpl
          have hbz := hide hbl.out
          obtain ⟨bl, hbl0⟩ : ∃ bl, bl = begL f := ⟨_, rfl⟩
          obtain ⟨el, hel0⟩ : ∃ el, el = endL f := ⟨_, rfl⟩
          have hRl : Hid (R = spL bl el) := by show _ = _; rw [hf.out.2, hbl0, hel0]; rfl
          rw [← hbl0] at hb hbl2 hpl
          rw [← hel0] at he hel2 hpl
          obtain ⟨CB, cb, rfl, hb1, hb2, hbt⟩ := zw_form (own_zw hb)
          obtain ⟨CE, ce, rfl, he1, he2, het⟩ := zw_form (own_zw he)
          unfold maxLen at hb2 he2
          have hl5 := hide (hlitS.out wo)
          replace hbt := hide hbt
          replace het := hide het
          clear hb he hbl0 hel0 hd
          go_wp2_with fail
          go_loopg [11, 12] bl.length (fun gh uo i wr5 => ∃ (q : Nat), i = .int .i64 q ∧ q + gh = bl.length ∧ OwnSp wr5 wo.heap.size uo ((spL bl el).take q) ∧ Ext wo wr5)
          case atStart => exact ⟨0, rfl, by omega, by rw [List.take_zero]; exact hl5.out, (Ext.refl wo).alloc _⟩
          case round =>
            clear hl5
            obtain ⟨q, rfl, hq, ho, hX5⟩ := hrel
            obtain ⟨wp, hwp⟩ : ∃ wp, wp = wr := ⟨_, rfl⟩
            subst hwp
            have hz5 := hX5.size
            have hsl := spL_length bl el
            by_cases hqn : q < bl.length
            · obtain ⟨x, hx⟩ : ∃ x, bl[q]? = some x := ⟨_, List.getElem?_eq_getElem hqn⟩
              obtain ⟨b, o, rfl, -, hbw, c0⟩ := hbt.out q x hx
              have k0 := cell_later hX5 c0
              have hbr : b < _ := block_lt_of_cell k0
              have hsp := spL_get bl el q x hx
              have htl : ((spL bl el).take q).length = q := by rw [List.length_take]; omega
              haveI : In b _ := ⟨hbr⟩
              by_cases hqe : q < el.length
              · obtain ⟨y, hy⟩ : ∃ y, el[q]? = some y := ⟨_, List.getElem?_eq_getElem hqe⟩
                obtain ⟨b2, o2, rfl, -, hbw2, d0⟩ := het.out q y hy
                have j0 := cell_later hX5 d0
                have hbr2 : b2 < _ := block_lt_of_cell j0
                haveI : In b2 _ := ⟨hbr2⟩
                rw [hy] at hsp
                have hnx := hide (show (spL bl el).take (q + 1) = (spL bl el).take q ++ [(x, y)] by rw [List.take_add_one, hsp]; rfl)
                obtain ⟨S, hS⟩ : ∃ S, S = (spL bl el).take q := ⟨_, rfl⟩
                rw [← hS] at ho htl hnx
                obtain ⟨CO, co, rfl⟩ := own_form ho
                replace ho := hide ho
                clear hx hy hsp c0 d0 hS hsl
                have hsrc := hide (show Src Tryz.prog 2 95 (.slice (some ⟨wp.heap.size + 1, 0, none⟩) 1 1) 1 (ps [(x, y)]) ((wp.alloc (.cells #[.int .i64 x, .int .i64 y] 49)).alloc (.cells #[.int .i64 x, .int .i64 y] 49)) from by
                  have := src_jmp (P := Tryz.prog) Tryz.underlying95 (wp.alloc (.cells #[.int .i64 x, .int .i64 y] 49)) (x, y) 49
                  rwa [World.size_alloc] at this)
                go_wp2_with (at_builtin; (refine wpl_app tSpn rfl (.tmp 105) (.tmp 107) rfl rfl (own_ext ho.out (((Ext.refl _).alloc _).alloc _)) rfl hsrc.out (by unfold maxLen; omega) (by omega) (by simp; omega) ?_; intro v8 w8 ho8 hg8 _; have hX8 := hide (ext_grown ((hX5.alloc (.cells #[.int .i64 x, .int .i64 y] 49)).alloc (.cells #[.int .i64 x, .int .i64 y] 49)) hg8 (fun q hq => (ho.out.lt q hq).1))))
                go_roundg (bl.length - (q + 1))
                case measure => omega
                case rel => exact ⟨q + 1, by go_num, by omega, by rw [hnx.out]; exact own_appS (m := [(x, y)]) ho8, hX8.out⟩
              · have hen : el[q]? = none := List.getElem?_eq_none (by omega)
                rw [hen] at hsp
                have hnx := hide (show (spL bl el).take (q + 1) = (spL bl el).take q ++ [(x, 1125899906842624)] by rw [List.take_add_one, hsp]; rfl)
                obtain ⟨S, hS⟩ : ∃ S, S = (spL bl el).take q := ⟨_, rfl⟩
                rw [← hS] at ho htl hnx
                obtain ⟨CO, co, rfl⟩ := own_form ho
                replace ho := hide ho
                clear hx hen hsp c0 hS hsl
                have hsrc := hide (show Src Tryz.prog 2 95 (.slice (some ⟨wp.heap.size + 1, 0, none⟩) 1 1) 1 (ps [(x, 1125899906842624)]) ((wp.alloc (.cells #[.int .i64 x, .int .i64 1125899906842624] 49)).alloc (.cells #[.int .i64 x, .int .i64 1125899906842624] 49)) from by
                  have := src_jmp (P := Tryz.prog) Tryz.underlying95 (wp.alloc (.cells #[.int .i64 x, .int .i64 1125899906842624] 49)) (x, 1125899906842624) 49
                  rwa [World.size_alloc] at this)
                go_wp2_with (at_builtin; (refine wpl_app tSpn rfl (.tmp 105) (.tmp 107) rfl rfl (own_ext ho.out (((Ext.refl _).alloc _).alloc _)) rfl hsrc.out (by unfold maxLen; omega) (by omega) (by simp; omega) ?_; intro v8 w8 ho8 hg8 _; have hX8 := hide (ext_grown ((hX5.alloc (.cells #[.int .i64 x, .int .i64 1125899906842624] 49)).alloc (.cells #[.int .i64 x, .int .i64 1125899906842624] 49)) hg8 (fun q hq => (ho.out.lt q hq).1))))
                go_roundg (bl.length - (q + 1))
                case measure => omega
                case rel => exact ⟨q + 1, by go_num, by omega, by rw [hnx.out]; exact own_appS (m := [(x, 1125899906842624)]) ho8, hX8.out⟩
            · have hge5 : (bl.length : Int) ≤ q := by omega
              rw [List.take_of_length_le (by omega), ← hRl.out] at ho
              obtain ⟨CO, co, rfl⟩ := own_form ho
              replace ho := hide ho
              go_wp2_with fail
              go_returns
              exact ⟨_, by rw [hf.out.1]; rfl, own_base ho.out hX.size, hX.trans hX5⟩
end Go.Proofs.YtljkneajdndgjaaGreat
