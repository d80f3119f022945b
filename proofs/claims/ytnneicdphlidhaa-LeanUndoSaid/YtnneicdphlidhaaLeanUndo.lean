/-
  Layer 25: what was put in can be taken out again; joined leans are the lean of all numbers.
-/
import Derived.Test.YtnneicdphlidhaaLenD
import Derived.Test.YtnneicdphlidhaaArg
import Derived.Deep.LoopGhost
import Derived.WalkKit
import Derived.ProofKit
import Derived.OpenShut
import Derived.ShutString
import Derived.ChangeOld
import Derived.Below
import Derived.Lib.SmallJoins
import Derived.SizedLaws
import Derived.Deep.CondSized
import Derived.JoinedCond
import Derived.Test.YtnneicdphlidhaaRows
import Derived.Test.YtnneicdphlidhaaChecked
set_option linter.unusedVariables false
set_option linter.unusedSimpArgs false
namespace Go.Proofs.Ytnneicdphlidhaa.leanUndo
open Go.ChangeShapes Go.WideShapes Go.ChangeAt Go.RowKit Go.Joins
open Go.ChangeMaps (open_string shut_string)
open Floats
attribute [local go_sem] GW.cell GW.frozen In.eq_true In.le_true In.ne In.ne' In.ne_add In.ne_add' In.lt_add Upto.le_true Upto.le_add Upto.lt_add
theorem new1 {w : World} {b c d : Nat} {l : List (Int × Int)} {j : Nat} {p : Int × Int} (e1 : pE (l.take (j + 1)) = pE (l.take j) + dE p) (e2 : pN (l.take (j + 1)) = pN (l.take j) + dN p) :
    ∀ w', L3 w w' b c d (pE (l.take j) + dE p) (pN (l.take j) + dN p) 0 0 (pE (l.take j) + dE p) (pN (l.take j) + dN p) → L3 w w' b c d (pE (l.take (j + 1))) (pN (l.take (j + 1))) 0 0 (pE (l.take (j + 1))) (pN (l.take (j + 1))) := fun w' h => by rw [e1, e2]; exact h
theorem new2 {w : World} {b c d : Nat} {X Y : Int} {l : List (Int × Int)} {j : Nat} {p : Int × Int} (e1 : pE (l.take (j + 1)) = pE (l.take j) + dE p) (e2 : pN (l.take (j + 1)) = pN (l.take j) + dN p) :
    ∀ w', L3 w w' b c d X Y (pE (l.take j) + dE p) (pN (l.take j) + dN p) (X + pE (l.take j) + dE p) (Y + pN (l.take j) + dN p) → L3 w w' b c d X Y (pE (l.take (j + 1))) (pN (l.take (j + 1))) (X + pE (l.take (j + 1))) (Y + pN (l.take (j + 1))) := fun w' h => by rw [e1, e2, ← Int.add_assoc, ← Int.add_assoc]; exact h
theorem new3 {w : World} {b c d : Nat} {X Y Z W : Int} {l : List (Int × Int)} {j : Nat} {p : Int × Int} (e1 : pE (l.take (j + 1)) = pE (l.take j) + dE p) (e2 : pN (l.take (j + 1)) = pN (l.take j) + dN p) :
    ∀ w', L3 w w' b c d (X - pE (l.take j) + -dE p) (Y - pN (l.take j) + -dN p) Z W X Y → L3 w w' b c d (X - pE (l.take (j + 1))) (Y - pN (l.take (j + 1))) Z W X Y := fun w' h => by
  rw [e1, e2, show X - (pE (l.take j) + dE p) = X - pE (l.take j) + -dE p by omega, show Y - (pN (l.take j) + dN p) = Y - pN (l.take j) + -dN p by omega]; exact h
set_option maxHeartbeats 8000000 in
set_option maxRecDepth 100000 in
theorem walk (l m : List (Int × Int)) (v v' : Value) (w : World) (h : Sl w [] 2 v l.length (ps l)) (h' : Sl w [] 2 v' m.length (ps m)) : Calls Try.prog 6 #[v, v'] w fun e w' => e = .returned (.bool true) ∧ Ext w w' := by
  obtain ⟨A, cap, rfl, hlc, hlm, hat⟩ := pr_form h
  obtain ⟨A', cap', rfl, hlc', hlm', hat'⟩ := pr_form h'
  unfold maxLen at hlm hlm'
  have hatH := hide hat
  have hatM := hide hat'
  have hnew := hide (lnewM w)
  clear hat hat' h h'
  by_cases h1000 : l.length ≤ 1000
  · have hl1 : ¬ (1000 : Int) < l.length := by omega
    by_cases h2000 : m.length ≤ 1000
    · have hl2 : ¬ (1000 : Int) < m.length := by omega
      go_enter Try.func6, Try.ntmps6
      go_wp2_with (go_at_call 22; first | ((with_reducible refine hnew.out.mono ?_); rintro ee w1 ⟨b, rfl, hM1⟩; replace hM1 := hide hM1; clear hnew) | (refine (lnew_c w1).mono ?_; rintro ee w2 ⟨c, rfl, hC2, hlc2, hX2⟩; replace hC2 := hide hC2; replace hX2 := hide hX2) | (refine (lnew_c w2).mono ?_; rintro ee w3 ⟨d, rfl, hD3, hlc3, hX3⟩; replace hD3 := hide hD3; replace hX3 := hide hX3))
      have hbc : b < w1.heap.size := hM1.out.ln.lt
      have hcd : c < w2.heap.size := hC2.out.lt
      have hL0 : Hid (L3 w w3 b c d (pE (l.take 0)) (pN (l.take 0)) 0 0 (pE (l.take 0)) (pN (l.take 0))) := by
        have z1 := hX2.out.size
        have z0 := hM1.out.e.size
        exact ⟨hM1.out.ln.ext (hX2.out.trans hX3.out), hC2.out.ext hX3.out, hD3.out, by omega, by omega, by omega, hM1.out.2.1, by omega, by omega, hM1.out.e.trans (hX2.out.trans hX3.out)⟩
      clear hM1 hC2 hX2 hlc2 hbc hcd hD3 hX3 hlc3
      go_loopg [8] l.length (fun gh iv wr => ∃ (j : Nat), iv = .int .i64 j ∧ j + gh = l.length ∧ Hid (L3 w wr b c d (pE (l.take j)) (pN (l.take j)) 0 0 (pE (l.take j)) (pN (l.take j))))
      case atStart => exact ⟨0, rfl, by omega, hL0⟩
      case round =>
        clear hL0
        obtain ⟨j, rfl, hj, hL⟩ := hrel
        by_cases hlt : j < l.length
        · obtain ⟨p, hp⟩ : ∃ p, l[j]? = some p := ⟨_, List.getElem?_eq_getElem hlt⟩
          obtain ⟨b0, o, rfl, -, hb0, c0, c1⟩ := hatH.out j p hp
          have k0 := lcell_later hL.out.fe c0
          have k1 := lcell_later hL.out.fe c1
          haveI : In b0 wr := ⟨block_lt_of_cell k0⟩
          have hjI : (j : Int) < l.length := by omega
          obtain ⟨e1, e2⟩ := p_snoc hp
          have hbt := p_take l j (by omega)
          have hbt2 := p_take l (j + 1) (by omega)
          rw [e1, e2] at hbt2
          obtain ⟨n1, n2, -⟩ := lp_near p (x := pE (l.take j)) (y := pN (l.take j)) (by omega) (by omega)
          obtain ⟨n3, n4, -⟩ := lp_near p (x := pE (l.take j)) (y := pN (l.take j)) (by omega) (by omega)
          have hp1 := hide (fun w' (h : L3 w w' b c d (pE (l.take j)) (pN (l.take j)) 0 0 (pE (l.take j)) (pN (l.take j))) => L3.put1 h p.1 p.2)
          rw [n1, n2] at hp1
          have hp2 := hide (fun w' (h : L3 w w' b c d (pE (l.take j) + dE p) (pN (l.take j) + dN p) 0 0 (pE (l.take j)) (pN (l.take j))) => L3.put3 h p.1 p.2)
          rw [n3, n4] at hp2
          have hnew := hide (new1 (w := w) (b := b) (c := c) (d := d) e1 e2)
          obtain ⟨xk, xn⟩ := p
          simp only at k0 k1 hp1 hp2 c0 c1
          generalize lpE xk xn (pE (l.take j)) (pN (l.take j)) = E1 at *
          generalize lpE xk xn (pE (l.take j)) (pN (l.take j)) = E2 at *
          have hc0 := hide c0
          have hc1 := hide c1
          clear c0 c1 hp hb0 n1 n2 n3 n4 hbt hbt2 e1 e2
          go_wp2_with fail
          refine wp_region_gw_tail 11 (by kernel_rfl) (by kernel_rfl) ?_
          simp only [List.take_succ_cons, List.take_zero, List.drop_succ_cons, List.drop_zero]
          repeat (go_big_quiet_step (fail))
          refine wpQuiet_nil ?_
          intro g1
          go_wp2_with (go_at_call 23; (with_reducible refine (hp1.out _ (hL.out.later g1.grown)).mono ?_); rintro ee w5 ⟨rfl, hL2⟩; have k2 := lcell_later (L3.fe hL2) hc0.out; have k3 := lcell_later (L3.fe hL2) hc1.out; haveI : In b0 w5 := ⟨block_lt_of_cell k2⟩; replace hL2 := hide hL2; clear hL k0 k1)
          refine wp_region_gw_tail 11 (by kernel_rfl) (by kernel_rfl) ?_
          simp only [List.take_succ_cons, List.take_zero, List.drop_succ_cons, List.drop_zero]
          repeat (go_big_quiet_step (fail))
          refine wpQuiet_nil ?_
          intro g2
          go_wp2_with (go_at_call 23; (with_reducible refine (hp2.out _ (hL2.out.later g2.grown)).mono ?_); rintro ee w6 ⟨rfl, hL3⟩; replace hL3 := hide hL3)
          go_roundg (l.length - (j + 1))
          case measure => omega
          case rel => exact ⟨j + 1, by go_num, by omega, hide (hnew.out _ hL3.out)⟩
        · have hge : (l.length : Int) ≤ j := by omega
          have hje : j = l.length := by omega
          rw [hje, List.take_of_length_le (Nat.le_refl _)] at hL
          have hXb := p_take l l.length h1000
          rw [List.take_of_length_le (Nat.le_refl _)] at hXb
          obtain ⟨X, hX⟩ : ∃ z, z = pE l := ⟨_, rfl⟩
          obtain ⟨Y, hY⟩ : ∃ z, z = pN l := ⟨_, rfl⟩
          rw [← hX, ← hY] at hL hXb
          have hpt := hide (fun w' (h : Ln w' b X Y) => lparts_c b _ _ w' h)
          clear hX hY hje hatH
          go_wp2_with (go_at_call 25; (with_reducible refine seq_gw (hpt.out _ (L3.fa hL.out)) ?_); intro g4; replace hL := hide (hL.out.later g4.grown))
          have hL4 : Hid (L3 w g4.val b c d X Y (pE (m.take 0)) (pN (m.take 0)) (X + pE (m.take 0)) (Y + pN (m.take 0))) := by
            show L3 _ _ _ _ _ _ _ _ _ _ _
            rw [show pE (m.take 0) = 0 from rfl, show pN (m.take 0) = 0 from rfl, Int.add_zero, Int.add_zero]; exact hL.out
          clear hL hge hpt
          go_loopg [11] m.length (fun gh iv wr => ∃ (j : Nat), iv = .int .i64 j ∧ j + gh = m.length ∧ Hid (L3 w wr b c d X Y (pE (m.take j)) (pN (m.take j)) (X + pE (m.take j)) (Y + pN (m.take j))))
          case atStart => exact ⟨0, rfl, by omega, hL4⟩
          case round =>
            clear hL4
            obtain ⟨j, rfl, hj, hL⟩ := hrel
            by_cases hlt : j < m.length
            · obtain ⟨p, hp⟩ : ∃ p, m[j]? = some p := ⟨_, List.getElem?_eq_getElem hlt⟩
              obtain ⟨b0, o, rfl, -, hb0, c0, c1⟩ := hatM.out j p hp
              have k0 := lcell_later hL.out.fe c0
              have k1 := lcell_later hL.out.fe c1
              haveI : In b0 wr := ⟨block_lt_of_cell k0⟩
              have hjI : (j : Int) < m.length := by omega
              obtain ⟨e1, e2⟩ := p_snoc hp
              have hbt := p_take m j (by omega)
              have hbt2 := p_take m (j + 1) (by omega)
              rw [e1, e2] at hbt2
              obtain ⟨n1, n2, -⟩ := lp_near p (x := pE (m.take j)) (y := pN (m.take j)) (by omega) (by omega)
              obtain ⟨n3, n4, -⟩ := lp_near p (x := X + pE (m.take j)) (y := Y + pN (m.take j)) (by omega) (by omega)
              have hp1 := hide (fun w' (h : L3 w w' b c d X Y (pE (m.take j)) (pN (m.take j)) (X + pE (m.take j)) (Y + pN (m.take j))) => L3.put2 h p.1 p.2)
              rw [n1, n2] at hp1
              have hp2 := hide (fun w' (h : L3 w w' b c d X Y (pE (m.take j) + dE p) (pN (m.take j) + dN p) (X + pE (m.take j)) (Y + pN (m.take j))) => L3.put3 h p.1 p.2)
              rw [n3, n4] at hp2
              have hnew := hide (new2 (w := w) (b := b) (c := c) (d := d) (X := X) (Y := Y) e1 e2)
              obtain ⟨xk, xn⟩ := p
              simp only at k0 k1 hp1 hp2 c0 c1
              generalize lpE xk xn (pE (m.take j)) (pN (m.take j)) = E1 at *
              generalize lpE xk xn (X + pE (m.take j)) (Y + pN (m.take j)) = E2 at *
              have hc0 := hide c0
              have hc1 := hide c1
              clear c0 c1 hp hb0 n1 n2 n3 n4 hbt hbt2 e1 e2
              go_wp2_with fail
              refine wp_region_gw_tail 11 (by kernel_rfl) (by kernel_rfl) ?_
              simp only [List.take_succ_cons, List.take_zero, List.drop_succ_cons, List.drop_zero]
              repeat (go_big_quiet_step (fail))
              refine wpQuiet_nil ?_
              intro g1
              go_wp2_with (go_at_call 23; (with_reducible refine (hp1.out _ (hL.out.later g1.grown)).mono ?_); rintro ee w5 ⟨rfl, hL2⟩; have k2 := lcell_later (L3.fe hL2) hc0.out; have k3 := lcell_later (L3.fe hL2) hc1.out; haveI : In b0 w5 := ⟨block_lt_of_cell k2⟩; replace hL2 := hide hL2; clear hL k0 k1)
              refine wp_region_gw_tail 11 (by kernel_rfl) (by kernel_rfl) ?_
              simp only [List.take_succ_cons, List.take_zero, List.drop_succ_cons, List.drop_zero]
              repeat (go_big_quiet_step (fail))
              refine wpQuiet_nil ?_
              intro g2
              go_wp2_with (go_at_call 23; (with_reducible refine (hp2.out _ (hL2.out.later g2.grown)).mono ?_); rintro ee w6 ⟨rfl, hL3⟩; replace hL3 := hide hL3)
              go_roundg (m.length - (j + 1))
              case measure => omega
              case rel => exact ⟨j + 1, by go_num, by omega, hide (hnew.out _ hL3.out)⟩
            · have hge : (m.length : Int) ≤ j := by omega
              have hje : j = m.length := by omega
              rw [hje, List.take_of_length_le (Nat.le_refl _)] at hL
              have hZb := p_take m m.length h2000
              rw [List.take_of_length_le (Nat.le_refl _)] at hZb
              obtain ⟨Z, hZ⟩ : ∃ z, z = pE m := ⟨_, rfl⟩
              obtain ⟨W, hW⟩ : ∃ z, z = pN m := ⟨_, rfl⟩
              rw [← hZ, ← hW] at hL hZb
              have hf : farL (X + Z) (Y + W) = false := far_no.2 (by omega)
              have hpt1 := hide (fun w' (h : Ln w' c Z W) => lparts_c c _ _ w' h)
              have hjn := hide (fun w' (h : L3 w w' b c d X Y Z W (X + Z) (Y + W)) => L3.join h)
              unfold adE adX adY at hjn
              rw [hf] at hjn
              simp only [Bool.false_eq_true, if_false] at hjn
              have hpt2 := hide (fun w' k (h : Ln w' k (X + Z) (Y + W)) => lparts_c k _ _ w' h)
              obtain ⟨P, hP⟩ : ∃ z, X + Z = z := ⟨_, rfl⟩
              obtain ⟨Q, hQ⟩ : ∃ z, Y + W = z := ⟨_, rfl⟩
              rw [hP, hQ] at hL hjn hpt2
              have es1 : IntKind.i64.wrap (P - X) = Z := by rw [IntKind.wrap_i64]; omega
              have es2 : IntKind.i64.wrap (Q - Y) = W := by rw [IntKind.wrap_i64]; omega
              have es3 : P - X = Z := by omega
              have es4 : Q - Y = W := by omega
              have hPb : -2097152000 ≤ P ∧ P ≤ 2097152000 ∧ -2097152000 ≤ Q ∧ Q ≤ 2097152000 := by omega
              have hPQ := hide (And.intro hP hQ)
              have hZW := hide (And.intro hZ hW)
              clear hf hje hP hQ hZ hW
              go_wp2_with (first
                | (go_at_call 31; (with_reducible refine (hjn.out _ hL5.out).mono ?_); rintro ee w7 ⟨rfl, hL6⟩; replace hL6 := hide hL6; clear hL5)
                | (go_at_call 25; first
                  | ((with_reducible refine seq_gw (hpt2.out _ _ (L3.fc hL7.out)) ?_); intro g7; have hL8 := hide (hL7.out.later g7.grown); clear hL7)
                  | ((with_reducible refine seq_gw (hpt2.out _ _ (L3.fa hL6.out)) ?_); intro g6; have hL7 := hide (hL6.out.later g6.grown); clear hL6)
                  | ((with_reducible refine seq_gw (hpt1.out _ (L3.fb hL.out)) ?_); intro g5; have hL5 := hide (hL.out.later g5.grown); clear hL)))
              have hL9 : Hid (L3 w g7.val b c d (P - pE (m.take 0)) (Q - pN (m.take 0)) Z W P Q) := by
                show L3 _ _ _ _ _ _ _ _ _ _ _
                rw [show pE (m.take 0) = 0 from rfl, show pN (m.take 0) = 0 from rfl, Int.sub_zero, Int.sub_zero]; exact hL8.out
              clear hL8 hge hpt1 hjn hpt2 es1 es2 es3 es4
              go_loopg [18] m.length (fun gh iv wr => ∃ (j : Nat), iv = .int .i64 j ∧ j + gh = m.length ∧ Hid (L3 w wr b c d (P - pE (m.take j)) (Q - pN (m.take j)) Z W P Q))
              case atStart => exact ⟨0, rfl, by omega, hL9⟩
              case round =>
                clear hL9
                obtain ⟨j, rfl, hj, hL⟩ := hrel
                by_cases hlt : j < m.length
                · obtain ⟨p, hp⟩ : ∃ p, m[j]? = some p := ⟨_, List.getElem?_eq_getElem hlt⟩
                  obtain ⟨b0, o, rfl, -, hb0, c0, c1⟩ := hatM.out j p hp
                  have k0 := lcell_later hL.out.fe c0
                  have k1 := lcell_later hL.out.fe c1
                  haveI : In b0 wr := ⟨block_lt_of_cell k0⟩
                  have hjI : (j : Int) < m.length := by omega
                  obtain ⟨e1, e2⟩ := p_snoc hp
                  have hbt := p_take m j (by omega)
                  obtain ⟨n1, n2, n3⟩ := lp_near (p.1, -p.2) (x := P - pE (m.take j)) (y := Q - pN (m.take j)) (by omega) (by omega)
                  obtain ⟨n4, n5⟩ := d_neg p
                  rw [n4] at n1
                  rw [n5] at n2
                  have hp1 := hide (fun w' (h : L3 w w' b c d (P - pE (m.take j)) (Q - pN (m.take j)) Z W P Q) => L3.put1 h p.1 (-p.2))
                  simp only at n1 n2 n3
                  rw [n1, n2] at hp1
                  have hnw := hide (new3 (w := w) (b := b) (c := c) (d := d) (X := P) (Y := Q) (Z := Z) (W := W) e1 e2)
                  have hstay : Hid (¬ okN p.2 → ∀ w', L3 w w' b c d (P - pE (m.take j)) (Q - pN (m.take j)) Z W P Q → L3 w w' b c d (P - pE (m.take (j + 1))) (Q - pN (m.take (j + 1))) Z W P Q) := by
                    intro hno w' h
                    rw [e1, e2, show dE p = 0 from if_neg hno, show dN p = 0 from if_neg hno, Int.add_zero, Int.add_zero]; exact h
                  obtain ⟨xk, xn⟩ := p
                  simp only at k0 k1 hp1 hstay n3
                  by_cases hok : okN xn
                  · have hneg : IntKind.i64.wrap (-xn) = -xn := by rw [IntKind.wrap_i64]; obtain ⟨h1, h2⟩ := hok; omega
                    obtain ⟨ho1, ho2⟩ := hok
                    rw [n3 (by show _ ∧ _; omega)] at hp1
                    have d1 : decide (xn ≤ 1048576) = true := decide_eq_true ho2
                    have d2 : decide (-1048576 ≤ xn) = true := decide_eq_true ho1
                    clear c0 c1 hp hb0 n1 n2 n3 n4 n5 hbt e1 e2 hstay
                    go_wp2_with fail
                    refine wp_region_gw_tail 27 (by kernel_rfl) (by kernel_rfl) ?_
                    simp only [List.take_succ_cons, List.take_zero, List.drop_succ_cons, List.drop_zero]
                    repeat (go_big_quiet_step (fail))
                    refine wpQuiet_nil ?_
                    intro g1
                    go_wp2_with (go_at_call 23; (with_reducible refine (hp1.out _ (hL.out.later g1.grown)).mono ?_); rintro ee w8 ⟨rfl, hL2⟩; replace hL2 := hide hL2)
                    go_roundg (m.length - (j + 1))
                    case measure => omega
                    case rel => exact ⟨j + 1, by go_num, by omega, hide (hnw.out _ hL2.out)⟩
                  · have hst := hide (hstay.out hok)
                    have ho2 : 1048576 < xn ∨ xn < -1048576 := by unfold okN at hok; omega
                    clear c0 c1 hp hb0 n1 n2 n3 n4 n5 hbt e1 e2 hstay hp1 hnw
                    by_cases h9 : 1048576 < xn
                    · have d1 : decide (xn ≤ 1048576) = false := decide_eq_false (by omega)
                      clear ho2 hok
                      go_wp2_with fail
                      refine wp_region_gw_tail 27 (by kernel_rfl) (by kernel_rfl) ?_
                      simp only [List.take_succ_cons, List.take_zero, List.drop_succ_cons, List.drop_zero]
                      repeat (go_big_quiet_step (fail))
                      refine wpQuiet_nil ?_
                      intro g1
                      go_wp2_with fail
                      go_roundg (m.length - (j + 1))
                      case measure => omega
                      case rel => exact ⟨j + 1, by go_num, by omega, hide (hst.out _ (hL.out.later g1.grown))⟩
                    · have h10 : xn < -1048576 := by omega
                      have d1 : decide (xn ≤ 1048576) = true := decide_eq_true (by omega)
                      have d2 : decide (-1048576 ≤ xn) = false := decide_eq_false (by omega)
                      clear ho2 hok h9
                      go_wp2_with fail
                      refine wp_region_gw_tail 27 (by kernel_rfl) (by kernel_rfl) ?_
                      simp only [List.take_succ_cons, List.take_zero, List.drop_succ_cons, List.drop_zero]
                      repeat (go_big_quiet_step (fail))
                      refine wpQuiet_nil ?_
                      intro g1
                      go_wp2_with fail
                      go_roundg (m.length - (j + 1))
                      case measure => omega
                      case rel => exact ⟨j + 1, by go_num, by omega, hide (hst.out _ (hL.out.later g1.grown))⟩
                · have hge : (m.length : Int) ≤ j := by omega
                  have hje : j = m.length := by omega
                  have eX : P - pE m = X := by have := hPQ.out.1; have := hZW.out.1; omega
                  have eY : Q - pN m = Y := by have := hPQ.out.2; have := hZW.out.2; omega
                  rw [hje, List.take_of_length_le (Nat.le_refl _), eX, eY] at hL
                  have hpt1 := hide (fun w' (h : Ln w' b X Y) => lparts_c b _ _ w' h)
                  have hpt2 := hide (fun w' (h : Ln w' c Z W) => lparts_c c _ _ w' h)
                  have hli := hide (fun w' => leanLive_c w')
                  clear hje eX eY hPQ hZW hatM
                  go_wp2_with (first
                    | (go_at_call 25; first
                      | ((with_reducible refine seq_gw (hpt2.out _ (L3.fb hLa.out)) ?_); intro gb; have hLb := hide (hLa.out.later gb.grown); clear hLa)
                      | ((with_reducible refine seq_gw (hpt1.out _ (L3.fa hL.out)) ?_); intro ga; have hLa := hide (hL.out.later ga.grown); clear hL))
                    | (go_at_call 30; (with_reducible refine seq_gw (hli.out _) ?_); intro gc; have hLc := hide (hLb.out.later gc.grown)))
                  go_returns
                  exact ⟨by first | rfl | simp, L3.fe hLc.out⟩
    · have hl2 : (1000 : Int) < m.length := by omega
      clear hatH hatM hnew
      go_enter Try.func6, Try.ntmps6
      go_wp2_with (go_at_call 30; (with_reducible refine seq_gw (leanLive_c _) ?_); intro g9)
      go_returns
      exact ⟨rfl, g9.grown⟩
  · have hl1 : (1000 : Int) < l.length := by omega
    clear hatH hatM hnew
    go_enter Try.func6, Try.ntmps6
    go_wp2_with (go_at_call 30; (with_reducible refine seq_gw (leanLive_c _) ?_); intro g9)
    go_returns
    exact ⟨rfl, g9.grown⟩

theorem own : ownKnob Try.prog.godebug = none := by kernel_rfl
theorem laidOut : laidOutB Try.prog = true := by kernel_rfl
set_option maxRecDepth 100000 in
theorem lifted (os : Os) (started : os.Started) (H : Type) (enc : TypeId × Value → H) :
    ReturnsInHanded {} Try.checked os 6 .any (Rows.leanUndoSpec.pre6 enc Try.prog Try.f6 Rows.leanUndoRow.domain false) (Rows.leanUndoSpec.post enc Try.prog Try.f6 false true false false) := by
  refine returnsInHanded_of_change_sized (C := Try.checked) own started (by kernel_rfl) Try.func6
    (ChangeSpec.witness6 (enc := enc) (C := Try.checked) false ⟨#[], #[.slice none 0 0, .slice none 0 0], []⟩ 8 (by kernel_rfl) (by kernel_rfl) (by kernel_rfl) (by kernel_rfl)) ?_
  intro W base args ds gs before hval0 hW hcnd hsz0 _
  have hsz : (DataW.weightsEach Try.prog (Try.f6.params.toList ++ Rows.leanUndoSpec.plain.varTypes Try.prog) (ds ++ gs)).all (· ≤ reachBytes) = true := hsz0
  clear hsz0
  have hval : ∀ (j : Nat) t v, Try.f6.params[j]? = some t → args[j]? = some v → Value.okWide Try.prog W .any base t v := hval0
  have hW' := hW
  obtain ⟨p, q, hA0, hV, rfl, hfz, hnd⟩ := hW
  have hA : DataW.TrodAll enc Try.prog W 0 (fun _ => true) true Try.f6.params.toList args.toList ds p := hA0
  rw [Try.params6] at hA hval hsz
  obtain ⟨v0, vs0, d0, ds0, p0, q0, hargs, rfl, rfl, h0, r0⟩ := trodAll_cons hA
  obtain ⟨v1, vs1, d1, ds1, p1, q1, rfl, rfl, rfl, h1, r1⟩ := trodAll_cons r0
  obtain ⟨rfl, rfl, rfl⟩ := trodAll_nil r1
  obtain rfl : args = #[v0, v1] := by cases args; simp_all
  obtain ⟨rfl, rfl⟩ := trodVars_none hV
  have k0 := h0
  have lt0 : ∀ x ∈ p0, x.block < W.heap.size := by obtain ⟨m, hm⟩ := k0; exact DataW.trod_lt m _ _ _ hm
  obtain ⟨A0, n0, c0, rfl⟩ := okWide_slice Try.underlying46 (hval 0 46 v0 rfl rfl)
  have ⟨m0, hm0⟩ := h0
  obtain ⟨l, ll, hl, ql⟩ := open_pairs Try.underlying46 Try.underlying53 (by kernel_rfl) rfl rfl (by kernel_rfl) (by kernel_rfl) Try.underlying3 Try.underlying3 hm0
  have zl : l.length ≤ 140737488351232 := by rw [ll]; exact sized_len hsz (j := 0) (t := 46) (e := 53) rfl rfl Try.underlying46 (of_decide_eq_true (by kernel_rfl))
  have k1 := h1
  have lt1 : ∀ x ∈ p1, x.block < W.heap.size := by obtain ⟨m, hm⟩ := k1; exact DataW.trod_lt m _ _ _ hm
  obtain ⟨A1, n1, c1, rfl⟩ := okWide_slice Try.underlying46 (hval 1 46 v1 rfl rfl)
  have ⟨m1, hm1⟩ := h1
  obtain ⟨m, lm, hm, qm⟩ := open_pairs Try.underlying46 Try.underlying53 (by kernel_rfl) rfl rfl (by kernel_rfl) (by kernel_rfl) Try.underlying3 Try.underlying3 hm1
  have zm : m.length ≤ 140737488351232 := by rw [lm]; exact sized_len hsz (j := 1) (t := 46) (e := 53) rfl rfl Try.underlying46 (of_decide_eq_true (by kernel_rfl))
  clear hA0 hval0
  refine (walk l m _ _ W hl hm).mono fun e W' ⟨he, bel⟩ => ?_
  subst he
  exact ⟨_, rfl, _, _, _, [], _, [], hW', trodAll_mk1 (shut_bool Try.underlying4 _), (trodAll_cons_mk (Below.trod laidOut (by kernel_rfl) (of_decide_eq_true (by kernel_rfl)) k0 bel lt0) (trodAll_cons_mk (Below.trod laidOut (by kernel_rfl) (of_decide_eq_true (by kernel_rfl)) k1 bel lt1) trodAll_mk0)), rfl, bel.frame _, fun h => by cases h⟩

theorem over : Rows.leanUndoRow.holds Try.pinned (OpenSpec.ofChange Rows.leanUndoSpec) :=
  OpenClaim.holds_of_wide 6 Try.f6 rfl rfl rfl rfl rfl rfl rfl ⟨rfl, rfl, rfl, rfl, rfl⟩ rfl rfl rfl rfl rfl (by kernel_rfl) Try.func6 (by kernel_rfl)
    (of_decide_eq_true (by kernel_rfl)) (by unfold Func.isWrapper; first | (rw [if_pos (by decide +kernel)]; kernel_rfl) | (rw [if_neg (by decide +kernel)]; exact ⟨rfl, rfl⟩))
    (fun os started H enc _ => lifted os started H enc)

theorem leanUndo_holds : Rows.LeanUndoSaid := over
end Go.Proofs.Ytnneicdphlidhaa.leanUndo
