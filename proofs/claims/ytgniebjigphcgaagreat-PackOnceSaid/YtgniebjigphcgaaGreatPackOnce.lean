/-
  Layer 11 (pack), 11.4: for every list of pieces (of which those of up to 2000 count), what is packed is not changed by packing, in whatever order its pieces come. No condition.
-/
import Derived.Test.YtgniebjigphcgaaGreatPakJ
import Derived.Test.YtgniebjigphcgaaGreatPakV
import Derived.Test.YtgniebjigphcgaaGreatArgP
import Derived.WalkKit
import Derived.ProofKit
import Derived.OpenShut
import Derived.ShutString
import Derived.ChangeOld
import Derived.Below
import Derived.Lib.SmallJoins
import Derived.SizedLaws
import Derived.Deep.CondSized
import Derived.JoinedCond
set_option linter.unusedVariables false
set_option linter.unusedSimpArgs false
namespace Go.Proofs.YtgniebjigphcgaaGreat.packOnce
open Go.ChangeShapes Go.WideShapes Go.ChangeAt Go.RowKit Go.Joins
open Go.ChangeMaps (open_string shut_string)
attribute [local go_sem] GW.cell GW.frozen In.eq_true In.le_true In.ne In.ne' In.ne_add In.ne_add' In.lt_add Upto.le_true Upto.le_add Upto.lt_add
set_option maxHeartbeats 8000000 in
set_option maxRecDepth 100000 in
theorem walk (l : List Ve) (v : Value) (w : World) (h : Ew w [] v l) : Calls Tryz.prog 6 #[v] w fun e w' => e = .returned (.bool true) ∧ Ext w w' := by
  by_cases hl : l.length ≤ 2000
  · have hlI : ¬ (2000 : Int) < l.length := by omega
    have hA := hide (fun w' (hX : Ext w w') => packPack_c l (by omega) v w' (h.ext hX))
    obtain ⟨VA, acap, rfl, -, -, -⟩ := ew_form h
    clear h
    by_cases he : ppE (eds l) = 0
    · rw [he] at hA
      have hk : pkE (eds l) = 0 := by rw [← pp_eq]; exact he
      obtain ⟨R, hR⟩ : ∃ R, R = ppR (eds l) := ⟨_, rfl⟩
      have honce : Hid (∀ B : List Ed, B.Perm R → ppE B = 0 ∧ ppR B = R ∧ R.length ≤ l.length) := fun B hB => by
        rw [hR] at hB ⊢
        have := pp_once hk hB
        simpa [eds] using this
      rw [← hR] at hA
      clear hR hk he
      go_enter Tryz.func6, Tryz.ntmps6
      go_wp2_with (go_at_call 20; refine (hA.out _ (Ext.refl _)).mono ?_; rintro ee w1 ⟨v1, M1, rfl, hM1, o1, x1⟩; have X1 := hide ((Ext.refl w).trans x1); obtain ⟨AM1, cM1, qM1⟩ := own_form o1.1; subst qM1)
      have hl1 : M1.length ≤ l.length := by
        have := (honce.out R (List.Perm.refl _)).2.2
        rw [← hM1] at this
        simpa [eds] using this
      obtain ⟨A9, c9, e1, hlc1, hlm1, hat1⟩ := ew_form o1.ew
      simp only [Value.slice.injEq] at e1
      obtain ⟨rfl, -, rfl⟩ := e1
      unfold maxLen at hlm1
      replace hat1 := hide hat1
      have hrw1 := hide o1.ew.2
      replace o1 := hide o1
      replace hM1 := hide hM1
      have hlit := hide (World.ownsRow_lit (base := w1.heap.size) (e := 48) (size := 3) w1 #[] 0 (Nat.le_refl _) (by decide) rfl)
      clear hA
      obtain ⟨T, hT⟩ : ∃ T, T = M1.reverse := ⟨_, rfl⟩
      have hTl : T.length = M1.length := by rw [hT, List.length_reverse]
      have hTg : Hid (∀ (k i : Nat) x, i + 1 + k = M1.length → M1[i]? = some x → T.take (k + 1) = T.take k ++ [x]) := fun k i x h1 h2 => by
        rw [hT, List.take_add_one, List.getElem?_reverse (by omega), show M1.length - 1 - k = i by omega, h2, Option.toList_some]
      have hTm : Hid (∀ p ∈ T, p ∈ M1) := fun p hp => by rw [hT] at hp; exact List.mem_reverse.1 hp
      have hTe : Hid ((eds T).Perm R) := by
        show List.Perm _ _
        rw [hT, ← hM1.out]; unfold eds; rw [List.map_reverse]; exact List.reverse_perm _
      clear hT
      have hwr : wrap64 ((M1.length : Int) - 1) = M1.length - 1 := by unfold wrap64; omega
      rw [hwr]
      clear hwr
      go_loopg [5, 6] M1.length (fun gh vv i wr => ∃ (k : Nat) (m : Int), i = .int .i64 m ∧ m + 1 + k = M1.length ∧ k + gh = M1.length ∧ OwnPp wr w1.heap.size vv (T.take k) ∧ Ext w1 wr)
      case atStart => exact ⟨0, (M1.length : Int) - 1, by go_num, by omega, by omega, hlit.out, (Ext.refl _).alloc _⟩
      case round =>
        clear hlit
        obtain ⟨k, m, rfl, hm, hk, ho, hX⟩ := hrel
        have hzX := hX.size
        by_cases hlt : k < M1.length
        · obtain ⟨i, rfl⟩ : ∃ i : Nat, m = i := ⟨m.toNat, by omega⟩
          have hi : i < M1.length := by omega
          obtain ⟨x, hx⟩ : ∃ x, M1[i]? = some x := ⟨_, List.getElem?_eq_getElem hi⟩
          obtain ⟨b, o, rfl, -, hb, c0, c1, c2⟩ := hat1.out i x hx
          have k0 := cell_later hX c0
          have k1 := cell_later hX c1
          have k2 := cell_later hX c2
          have hbr : b < wr.heap.size := block_lt_of_cell k0
          have hrw := Sl.ext (hrw1.out x (List.mem_of_getElem? hx)) hX
          have hnx := hide (hTg.out k i x (by omega) hx)
          have hel : (T.take k).length ≤ 2000 := by rw [List.length_take]; omega
          have hiI : (i : Int) < M1.length := by omega
          obtain ⟨xv, xq, xa, xn⟩ := x
          simp only at k0 k1 k2 hrw hnx
          obtain ⟨XA, xcap, rfl⟩ := rw_val hrw
          obtain ⟨Q, hQ⟩ : ∃ Q, Q = T.take k := ⟨_, rfl⟩
          rw [← hQ] at ho hnx hel
          replace hQ := hide hQ
          obtain ⟨C, ccap, rfl⟩ := own_form ho
          have ho0 := hide ho
          have hlit := hide (litP1 (.slice XA xq.length xcap) xq (xa, xn) wr hrw)
          have hX2 := hide ((Ext.refl wr).alloc (.cells #[.slice XA xq.length xcap, .int .i64 xa, .int .i64 xn] 48))
          haveI : In b wr := ⟨hbr⟩
          clear c0 c1 c2 hat1 hx hrw ho hrw1
          go_wp2_with (at_builtin; (refine wpl_app tPc rfl (.tmp 29) (.tmp 34) rfl rfl (own_ext ho0.out hX2.out) rfl (src_sl Tryz.underlying33 hlit.out.1 (Ew.one hlit.out) (by omega)) (by unfold maxLen; show Q.length + 1 ≤ _; omega) (by show (Q.length + 1) * 40 ≤ _; omega) (Nat.le_trans hzX hX2.out.size) ?_; intro v8 w8 ho8 hg8 hob8; have hX8 := hide (ext_grown (hX.trans hX2.out) hg8 (fun q hq => (ho0.out.lt q hq).1))))
          go_roundg (M1.length - (k + 1))
          case measure => omega
          case rel => exact ⟨k + 1, (i : Int) - 1, by go_num, by omega, by omega, by rw [hnx.out]; exact own_appP (M := [(.slice XA xq.length xcap, xq, (xa, xn))]) (by simpa [ec, ec1] using ho8), hX8.out⟩
        · have hk' : k = M1.length := by omega
          have hm1 : m = -1 := by omega
          subst hm1
          rw [hk', List.take_of_length_le (by omega)] at ho
          replace hk' := hide hk'
          have hT : Ew wr [] _ T := ⟨Sl.own ho (by simp), fun p hp => Sl.ext (hrw1.out p (hTm.out p hp)) hX⟩
          have hP := packPack_c T (by omega) _ wr hT
          obtain ⟨e1, e2, -⟩ := honce.out (eds T) hTe.out
          rw [e1, e2] at hP
          replace hP := hide hP
          obtain ⟨C, ccap, q9⟩ := own_form ho
          subst q9
          have hl1I : (M1.length : Int) ≤ l.length := by omega
          have X0 := hide (X1.out.trans hX)
          have X10 := hide hX
          replace hTl := hide hTl
          clear hT ho e1 e2 hat1 hrw1 honce hTg hTm hTe
          go_wp2_with (first | (go_at_call 20; refine hP.out.mono ?_; rintro ee w2 ⟨v2, M2, rfl, hM2, o2, x2⟩; have X2 := hide (X0.out.trans x2); obtain ⟨A2, c2, q2⟩ := own_form o2.1; subst q2; have X12 := hide (X10.out.trans x2)) | (go_at_call 16; (with_reducible refine seq_gw ((refPieceSame_c (L := M1) (M := M2) ((o1.out.ext (X12.out.trans g5.grown)).ew) (o2.ext g5.grown).ew).mono (R' := fun e w' => e = .returned (.bool true) ∧ Ext g5.val w') (fun e w' ⟨h1, h2⟩ => ⟨by rw [h1, hM1.out, hM2]; simp, h2⟩)) ?_); intro g6) | (go_at_call 11; first | ((with_reducible refine seq_gw' (pakLive_c _) ?_); intro g5) | ((with_reducible refine seq_gw (pakLive_c _) ?_); intro g5)))
          go_returns
          exact ⟨by first | rfl | simp, (X2.out.trans g5.grown).trans g6.grown⟩
    · have hne : (ppE (eds l) != 0) = true := by simp [he]
      generalize ppE (eds l) = E at *
      go_enter Tryz.func6, Tryz.ntmps6
      go_wp2_with (first | (go_at_call 20; refine (hA.out _ (Ext.refl _)).mono ?_; rintro ee w1 ⟨v1, M1, rfl, hM1, o1, x1⟩; have X1 := hide ((Ext.refl w).trans x1); obtain ⟨AM1, cM1, qM1⟩ := own_form o1.1; subst qM1) | (go_at_call 11; first | ((with_reducible refine seq_gw' (pakLive_c _) ?_); intro g5) | ((with_reducible refine seq_gw (pakLive_c _) ?_); intro g5)))
      go_returns
      exact ⟨by first | rfl | simp, X1.out.trans g5.grown⟩
  · have hlI : (2000 : Int) < l.length := by omega
    obtain ⟨VA, acap, rfl, -, -, -⟩ := ew_form h
    clear h hl
    go_enter Tryz.func6, Tryz.ntmps6
    go_wp2_with (go_at_call 11; first | ((with_reducible refine seq_gw' (pakLive_c _) ?_); intro g5) | ((with_reducible refine seq_gw (pakLive_c _) ?_); intro g5))
    go_returns
    exact ⟨by first | rfl | simp, g5.grown⟩

theorem own : ownKnob Tryz.prog.godebug = none := by kernel_rfl
theorem laidOut : laidOutB Tryz.prog = true := by kernel_rfl
set_option maxRecDepth 100000 in
theorem lifted (os : Os) (started : os.Started) (H : Type) (enc : TypeId × Value → H) :
    ReturnsInHanded {} Tryz.checked os 6 .any (Rows.packOnceSpec.pre6 enc Tryz.prog Tryz.f6 Rows.packOnceRow.domain false) (Rows.packOnceSpec.post enc Tryz.prog Tryz.f6 false true false false) := by
  refine returnsInHanded_of_change_sized (C := Tryz.checked) own started (by kernel_rfl) Tryz.func6
    (ChangeSpec.witness6 (enc := enc) (C := Tryz.checked) false ⟨#[], #[.slice none 0 0], []⟩ 8 (by kernel_rfl) (by kernel_rfl) (by kernel_rfl) (by kernel_rfl)) ?_
  intro W base args ds gs before hval0 hW hcnd hsz0 _
  have hsz : (DataW.weightsEach Tryz.prog (Tryz.f6.params.toList ++ Rows.packOnceSpec.plain.varTypes Tryz.prog) (ds ++ gs)).all (· ≤ reachBytes) = true := hsz0
  clear hsz0
  have hval : ∀ (j : Nat) t v, Tryz.f6.params[j]? = some t → args[j]? = some v → Value.okWide Tryz.prog W .any base t v := hval0
  have hW' := hW
  obtain ⟨p, q, hA0, hV, rfl, hfz, hnd⟩ := hW
  have hA : DataW.TrodAll enc Tryz.prog W 0 (fun _ => true) true Tryz.f6.params.toList args.toList ds p := hA0
  rw [Tryz.params6] at hA hval hsz
  obtain ⟨v0, vs0, d0, ds0, p0, q0, hargs, rfl, rfl, h0, r0⟩ := trodAll_cons hA
  obtain ⟨rfl, rfl, rfl⟩ := trodAll_nil r0
  obtain rfl : args = #[v0] := by cases args; simp_all
  obtain ⟨rfl, rfl⟩ := trodVars_none hV
  have k0 := h0
  have lt0 : ∀ x ∈ p0, x.block < W.heap.size := by obtain ⟨m, hm⟩ := k0; exact DataW.trod_lt m _ _ _ hm
  obtain ⟨A0, n0, c0, rfl⟩ := okWide_slice Tryz.underlying33 (hval 0 33 v0 rfl rfl)
  have ⟨m0, hm0⟩ := h0
  obtain ⟨l, ll, hl, bl⟩ := open_pieces Tryz.underlying33 Tryz.underlying48 (by kernel_rfl) rfl rfl (by kernel_rfl) (by kernel_rfl) Tryz.underlying46 Tryz.underlying30 rfl rfl (by kernel_rfl) (by kernel_rfl) Tryz.underlying3 Tryz.underlying3 Tryz.underlying85 (by kernel_rfl) rfl rfl rfl (by kernel_rfl) (by kernel_rfl) (by kernel_rfl) Tryz.underlying83 Tryz.underlying3 Tryz.underlying9 hm0
  have yl : ∀ p ∈ l, p.2.1.length * 32 ≤ 140737488351232 := fun p hp => by
    have e32 : Tryz.prog.bytesOf 85 = 32 := by kernel_rfl
    rcases bl p hp with h0 | ⟨d, hd, hle⟩
    · omega
    · have := List.all_eq_true.1 hsz d (DataW.weights_mem_each (j := 0) (t := 33) rfl rfl d hd)
      rw [decide_eq_true_iff] at this
      rw [e32] at hle
      exact Nat.le_trans hle this
  have zl : l.length * 40 ≤ 140737488351232 := by rw [ll]; exact sized_elems hsz (j := 0) (t := 33) (e := 48) rfl rfl Tryz.underlying33 (by kernel_rfl)
  clear hA0 hval0
  refine (walk l _ W hl).mono fun e W' ⟨he, bel⟩ => ?_
  subst he
  exact ⟨_, rfl, _, _, _, [], _, [], hW', trodAll_mk1 (shut_bool Tryz.underlying4 _), (trodAll_cons_mk (Below.trod laidOut (by kernel_rfl) (of_decide_eq_true (by kernel_rfl)) k0 bel lt0) trodAll_mk0), rfl, bel.frame _, fun h => by cases h⟩

theorem over : Rows.packOnceRow.holds Tryz.pinned (OpenSpec.ofChange Rows.packOnceSpec) :=
  OpenClaim.holds_of_wide 6 Tryz.f6 rfl rfl rfl rfl rfl rfl rfl ⟨rfl, rfl, rfl, rfl, rfl⟩ rfl rfl rfl rfl rfl (by kernel_rfl) Tryz.func6 (by kernel_rfl)
    (of_decide_eq_true (by kernel_rfl)) (by unfold Func.isWrapper; first | (rw [if_pos (by decide +kernel)]; kernel_rfl) | (rw [if_neg (by decide +kernel)]; exact ⟨rfl, rfl⟩))
    (fun os started H enc _ => lifted os started H enc)

theorem packOnce_holds : Rows.PackOnceSaid := over
end Go.Proofs.YtgniebjigphcgaaGreat.packOnce
