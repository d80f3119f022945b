/-
  Layer 25: a lean spun by so many quarters is the lean of numbers so much greater; four quarters on nothing has changed.
-/
import Derived.Test.YtnneicdphlidhaaLenD
import Derived.Test.YtnneicdphlidhaaArg
import Derived.Deep.LoopGhost
import Derived.WalkKit
import Derived.ProofKit
import Derived.OpenShut
import Derived.ShutString
import Derived.ChangeOld
import Derived.Below
import Derived.Lib.SmallJoins
import Derived.SizedLaws
import Derived.Deep.CondSized
import Derived.JoinedCond
import Derived.Test.YtnneicdphlidhaaRows
import Derived.Test.YtnneicdphlidhaaChecked
set_option linter.unusedVariables false
set_option linter.unusedSimpArgs false
namespace Go.Proofs.Ytnneicdphlidhaa.leanSpins
open Go.ChangeShapes Go.WideShapes Go.ChangeAt Go.RowKit Go.Joins
open Go.ChangeMaps (open_string shut_string)
open Floats
attribute [local go_sem] GW.cell GW.frozen In.eq_true In.le_true In.ne In.ne' In.ne_add In.ne_add' In.lt_add Upto.le_true Upto.le_add Upto.lt_add
set_option maxHeartbeats 8000000 in
set_option maxRecDepth 100000 in
theorem walk (l : List (Int × Int)) (q : Int) (v : Value) (w : World) (h : Sl w [] 2 v l.length (ps l)) (hq8 : 0 ≤ q ∧ q ≤ 255) (hb64 : ∀ p ∈ l, (-9223372036854775808 ≤ p.1 ∧ p.1 ≤ 9223372036854775807) ∧ -9223372036854775808 ≤ p.2 ∧ p.2 ≤ 9223372036854775807) : Calls Try.prog 7 #[v, .int .u8 q] w fun e w' => e = .returned (.bool true) ∧ Ext w w' := by
  obtain ⟨A, cap, rfl, hlc, hlm, hat⟩ := pr_form h
  unfold maxLen at hlm
  have hatH := hide hat
  have hnew := hide (lnewM w)
  replace hb64 := hide hb64
  clear hat h
  by_cases h1000 : l.length ≤ 1000
  · have hl1 : ¬ (1000 : Int) < l.length := by omega
    go_enter Try.func7, Try.ntmps7
    go_wp2_with (go_at_call 22; first | ((with_reducible refine hnew.out.mono ?_); rintro ee w1 ⟨b, rfl, hM1⟩; replace hM1 := hide hM1; clear hnew) | (refine (lnew_c w1).mono ?_; rintro ee w2 ⟨c, rfl, hC2, hlc2, hX2⟩; replace hC2 := hide hC2; replace hX2 := hide hX2))
    have hbc : b < w1.heap.size := hM1.out.ln.lt
    have hL0 : Hid (L2 w w2 b c 0 0 (spE q 0 0) (spN q 0 0)) := by
      show L2 _ _ _ _ _ _ _ _
      rw [(sp_zero q).1, (sp_zero q).2]
      exact ⟨hM1.out.ln.ext hX2.out, hC2.out, by omega, hM1.out.2.1, Nat.le_trans hM1.out.e.size hlc2, hM1.out.e.trans hX2.out⟩
    clear hM1 hC2 hX2 hlc2 hbc
    go_loopg [7] l.length (fun gh iv wr => ∃ (j : Nat) (x y : Int), iv = .int .i64 j ∧ j + gh = l.length ∧ Hid ((-1048576 * (j : Int) ≤ x ∧ x ≤ 1048576 * (j : Int)) ∧ -1048576 * (j : Int) ≤ y ∧ y ≤ 1048576 * (j : Int)) ∧ Hid (L2 w wr b c x y (spE q x y) (spN q x y)))
    case atStart => exact ⟨0, 0, 0, rfl, by omega, by show _ ∧ _; omega, hL0⟩
    case round =>
      clear hL0
      obtain ⟨j, x, y, rfl, hj, hN, hL⟩ := hrel
      by_cases hlt : j < l.length
      · obtain ⟨p, hp⟩ : ∃ p, l[j]? = some p := ⟨_, List.getElem?_eq_getElem hlt⟩
        obtain ⟨b0, o, rfl, -, hb0, c0, c1⟩ := hatH.out j p hp
        have hpb := hb64.out p (List.mem_of_getElem? hp)
        have k0 := lcell_later hL.out.fe c0
        have k1 := lcell_later hL.out.fe c1
        have hjI : (j : Int) < l.length := by omega
        obtain ⟨xk, xn⟩ := p
        simp only at k0 k1 hpb
        have hbd := hN.out
        obtain ⟨u, hu, hu1, hu2⟩ : ∃ u, xk.tdiv 2 = u ∧ -4611686018427387904 ≤ u ∧ u ≤ 4611686018427387904 := by
          refine ⟨_, rfl, ?_, ?_⟩
          · have := Int.mul_tdiv_add_tmod xk 2; have h2 := Int.tmod_lt_of_pos (-xk) (show (0 : Int) < 2 by decide); rw [Int.neg_tmod] at h2; have h3 := Int.tmod_lt_of_pos xk (show (0 : Int) < 2 by decide); omega
          · have := Int.mul_tdiv_add_tmod xk 2; have h2 := Int.tmod_lt_of_pos (-xk) (show (0 : Int) < 2 by decide); rw [Int.neg_tmod] at h2; have h3 := Int.tmod_lt_of_pos xk (show (0 : Int) < 2 by decide); omega
        obtain ⟨n1, n2, -⟩ := lp_near (u, xn) (x := x) (y := y) (by omega) (by omega)
        obtain ⟨m1, m2⟩ := sp_le q (x := x) (y := y) (by omega) (by omega)
        obtain ⟨n3, n4, -⟩ := lp_near (u + q, xn) (x := spE q x y) (y := spN q x y) (by omega) (by omega)
        obtain ⟨s1, s2⟩ := sp_add q x y (dE (u, xn)) (dN (u, xn))
        obtain ⟨d1, d2⟩ := d_spun q u xn
        rw [d1, ← s1] at n3
        rw [d2, ← s2] at n4
        have hd := d_le (u, xn)
        have hN2 : Hid ((-1048576 * ((j + 1 : Nat) : Int) ≤ x + dE (u, xn) ∧ x + dE (u, xn) ≤ 1048576 * ((j + 1 : Nat) : Int)) ∧ -1048576 * ((j + 1 : Nat) : Int) ≤ y + dN (u, xn) ∧ y + dN (u, xn) ≤ 1048576 * ((j + 1 : Nat) : Int)) := by show _ ∧ _; push_cast; omega
        have hp1 := hide (fun w' (h : L2 w w' b c x y (spE q x y) (spN q x y)) => L2.put1 h u xn)
        simp only at n1 n2 n3 n4
        rw [n1, n2] at hp1
        obtain ⟨x2, hx2⟩ : ∃ z, x + dE (u, xn) = z := ⟨_, rfl⟩
        obtain ⟨y2, hy2⟩ : ∃ z, y + dN (u, xn) = z := ⟨_, rfl⟩
        rw [hx2, hy2] at hp1 n3 n4 hN2
        have hp2 := hide (fun w' (h : L2 w w' b c x2 y2 (spE q x y) (spN q x y)) => L2.put2 h (u + q) xn)
        rw [n3, n4] at hp2
        generalize lpE u xn x y = E1 at *
        generalize lpE (u + q) xn (spE q x y) (spN q x y) = E2 at *
        generalize spE q x y = sx at *
        generalize spN q x y = sy at *
        have hc1 := hide c1
        clear c0 hp hb0 n1 n2 n3 n4 m1 m2 s1 s2 d1 d2 hd hx2 hy2 hbd c1 hN
        go_wp2_with (go_at_call 23; first
          | ((with_reducible refine (hp1.out _ hL.out).mono ?_); rintro ee w3 ⟨rfl, hL2⟩; have k2 := lcell_later (L2.fe hL2) hc1.out; replace hL2 := hide hL2; clear hL)
          | ((with_reducible refine (hp2.out _ hL2.out).mono ?_); rintro ee w4 ⟨rfl, hL3⟩; replace hL3 := hide hL3))
        go_roundg (l.length - (j + 1))
        case measure => omega
        case rel => exact ⟨j + 1, x2, y2, by go_num, by omega, hN2, hL3⟩
      · have hge : (l.length : Int) ≤ j := by omega
        have hs1 := hide (fun w' (h : Ln w' b x y) => lspun_c q b x y w' h)
        obtain ⟨f1, f2⟩ := sp_four (spE q x y) (spN q x y)
        generalize spE q x y = sx at *
        generalize spN q x y = sy at *
        have hpt := hide (fun w' c (h : Ln w' c sx sy) => lparts_c c _ _ w' h)
        have hs2 := hide (fun w' c (h : Ln w' c sx sy) => lspun_c 4 c sx sy w' h)
        rw [f1, f2] at hs2
        have hli := hide (fun w' => leanLive_c w')
        clear f1 f2 hN hatH
        go_wp2_with (first
          | (go_at_call 26; first
            | ((with_reducible refine (hs1.out _ (L2.fa hL.out)).mono ?_); rintro ee w3 ⟨c2, rfl, hS, -, hX3⟩; replace hS := hide hS; have hL3 := hide (hL.out.later hX3); clear hs1)
            | ((with_reducible refine (hs2.out _ _ hS2.out).mono ?_); rintro ee w5 ⟨c4, rfl, hS5, -, hX5⟩; replace hS5 := hide hS5; have hL5 := hide (hL4.out.later hX5)))
          | (go_at_call 25; first
            | ((with_reducible refine seq_gw (hpt.out _ _ hS5.out) ?_); intro g3; have hL6 := hide (hL5.out.later g3.grown))
            | ((with_reducible refine seq_gw (hpt.out _ _ (L2.fb hL7.out)) ?_); intro g2; have hL4 := hide (hL7.out.later g2.grown); have hS2 := hide (hS1.out.ext g2.grown); clear hS1)
            | ((with_reducible refine seq_gw (hpt.out _ _ hS.out) ?_); intro g1; have hL7 := hide (hL3.out.later g1.grown); have hS1 := hide (hS.out.ext g1.grown); clear hS))
          | (go_at_call 30; (with_reducible refine seq_gw (hli.out _) ?_); intro g5; have hL8 := hide (hL6.out.later g5.grown)))
        go_returns
        exact ⟨by first | rfl | simp, L2.fe hL8.out⟩
  · have hl1 : (1000 : Int) < l.length := by omega
    clear hatH hnew hb64
    go_enter Try.func7, Try.ntmps7
    go_wp2_with (go_at_call 30; (with_reducible refine seq_gw (leanLive_c _) ?_); intro g9)
    go_returns
    exact ⟨rfl, g9.grown⟩

theorem own : ownKnob Try.prog.godebug = none := by kernel_rfl
theorem laidOut : laidOutB Try.prog = true := by kernel_rfl
set_option maxRecDepth 100000 in
theorem lifted (os : Os) (started : os.Started) (H : Type) (enc : TypeId × Value → H) :
    ReturnsInHanded {} Try.checked os 7 .any (Rows.leanSpinsSpec.pre6 enc Try.prog Try.f7 Rows.leanSpinsRow.domain false) (Rows.leanSpinsSpec.post enc Try.prog Try.f7 false true false false) := by
  refine returnsInHanded_of_change_sized (C := Try.checked) own started (by kernel_rfl) Try.func7
    (ChangeSpec.witness6 (enc := enc) (C := Try.checked) false ⟨#[], #[.slice none 0 0, .int .u8 0], []⟩ 8 (by kernel_rfl) (by kernel_rfl) (by kernel_rfl) (by kernel_rfl)) ?_
  intro W base args ds gs before hval0 hW hcnd hsz0 _
  have hsz : (DataW.weightsEach Try.prog (Try.f7.params.toList ++ Rows.leanSpinsSpec.plain.varTypes Try.prog) (ds ++ gs)).all (· ≤ reachBytes) = true := hsz0
  clear hsz0
  have hval : ∀ (j : Nat) t v, Try.f7.params[j]? = some t → args[j]? = some v → Value.okWide Try.prog W .any base t v := hval0
  have hW' := hW
  obtain ⟨p, q, hA0, hV, rfl, hfz, hnd⟩ := hW
  have hA : DataW.TrodAll enc Try.prog W 0 (fun _ => true) true Try.f7.params.toList args.toList ds p := hA0
  rw [Try.params7] at hA hval hsz
  obtain ⟨v0, vs0, d0, ds0, p0, q0, hargs, rfl, rfl, h0, r0⟩ := trodAll_cons hA
  obtain ⟨v1, vs1, d1, ds1, p1, q1, rfl, rfl, rfl, h1, r1⟩ := trodAll_cons r0
  obtain ⟨rfl, rfl, rfl⟩ := trodAll_nil r1
  obtain rfl : args = #[v0, v1] := by cases args; simp_all
  obtain ⟨rfl, rfl⟩ := trodVars_none hV
  have k0 := h0
  have lt0 : ∀ x ∈ p0, x.block < W.heap.size := by obtain ⟨m, hm⟩ := k0; exact DataW.trod_lt m _ _ _ hm
  obtain ⟨A0, n0, c0, rfl⟩ := okWide_slice Try.underlying46 (hval 0 46 v0 rfl rfl)
  have ⟨m0, hm0⟩ := h0
  obtain ⟨l, ll, hl, ql⟩ := open_pairs Try.underlying46 Try.underlying53 (by kernel_rfl) rfl rfl (by kernel_rfl) (by kernel_rfl) Try.underlying3 Try.underlying3 hm0
  have zl : l.length ≤ 140737488351232 := by rw [ll]; exact sized_len hsz (j := 0) (t := 46) (e := 53) rfl rfl Try.underlying46 (of_decide_eq_true (by kernel_rfl))
  have k1 := h1
  have lt1 : ∀ x ∈ p1, x.block < W.heap.size := by obtain ⟨m, hm⟩ := k1; exact DataW.trod_lt m _ _ _ hm
  obtain ⟨q, rfl, _, _, wq⟩ := open_int Try.underlying5 (hval 1 5 v1 rfl rfl) h1
  have hq : 0 ≤ q ∧ q ≤ 255 := by simpa [Lit.wf, IntKind.min, IntKind.max, IntKind.bits, IntKind.signed] using wq
  clear hA0 hval0
  refine (walk l q _ W hl hq ql).mono fun e W' ⟨he, bel⟩ => ?_
  subst he
  exact ⟨_, rfl, _, _, _, [], _, [], hW', trodAll_mk1 (shut_bool Try.underlying4 _), (trodAll_cons_mk (Below.trod laidOut (by kernel_rfl) (of_decide_eq_true (by kernel_rfl)) k0 bel lt0) (trodAll_cons_mk (Below.trod laidOut (by kernel_rfl) (of_decide_eq_true (by kernel_rfl)) k1 bel lt1) trodAll_mk0)), rfl, bel.frame _, fun h => by cases h⟩

theorem over : Rows.leanSpinsRow.holds Try.pinned (OpenSpec.ofChange Rows.leanSpinsSpec) :=
  OpenClaim.holds_of_wide 7 Try.f7 rfl rfl rfl rfl rfl rfl rfl ⟨rfl, rfl, rfl, rfl, rfl⟩ rfl rfl rfl rfl rfl (by kernel_rfl) Try.func7 (by kernel_rfl)
    (of_decide_eq_true (by kernel_rfl)) (by unfold Func.isWrapper; first | (rw [if_pos (by decide +kernel)]; kernel_rfl) | (rw [if_neg (by decide +kernel)]; exact ⟨rfl, rfl⟩))
    (fun os started H enc _ => lifted os started H enc)

theorem leanSpins_holds : Rows.LeanSpinsSaid := over
end Go.Proofs.Ytnneicdphlidhaa.leanSpins
