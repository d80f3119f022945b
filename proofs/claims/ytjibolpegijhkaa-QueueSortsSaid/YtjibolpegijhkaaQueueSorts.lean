/-
  Layer 15 (queue), 15.3: for every list of jumps (of which those of up to 200 count), what is popped rises, and it is what was pushed, each as often as it was. No condition.
-/
import Derived.Test.YtjibolpegijhkaaQueK
import Derived.WalkKit
import Derived.ProofKit
import Derived.OpenShut
import Derived.ShutString
import Derived.ChangeOld
import Derived.Below
import Derived.Lib.SmallJoins
import Derived.SizedLaws
import Derived.Deep.CondSized
import Derived.JoinedCond
set_option linter.unusedVariables false
set_option linter.unusedSimpArgs false
namespace Go.Proofs.Ytjibolpegijhkaa.queueSorts
open Go.ChangeShapes Go.WideShapes Go.ChangeAt Go.RowKit Go.Joins
open Go.ChangeMaps (open_string shut_string)
attribute [local go_sem] GW.cell GW.frozen In.eq_true In.le_true In.ne In.ne' In.ne_add In.ne_add' In.lt_add Upto.le_true Upto.le_add Upto.lt_add
set_option maxHeartbeats 8000000 in
set_option maxRecDepth 100000 in
theorem walk (l : List Jp) (v : Value) (w : World) (h : Jw w [] v l) : Calls Try.prog 5 #[v] w fun e w' => e = .returned (.bool true) ∧ Ext w w' := by
  by_cases hl : l.length ≤ 200
  · have hlI : ¬ (200 : Int) < l.length := by omega
    have hN := hide (fun w' (hX : Ext w w') => new_c w.heap.size w' hX.size)
    have hP := hide (fun q w' (hX : Ext w w') (hQ : QS w' w.heap.size q [] 0) => push_c w.heap.size q [] l (by simp; omega) 0 (by omega) (by omega) v w' hQ (fun w'' k => Sl.ext h (k.ext hX (Nat.le_refl _))))
    obtain ⟨VA, acap, rfl, hlc, hlm, hat⟩ := jw_form h
    unfold maxLen at hlm
    replace hat := hide hat
    clear h
    obtain ⟨N, hN0⟩ : ∃ N, N = l.length := ⟨_, rfl⟩
    have hNh := hide hN0
    go_enter Try.func5, Try.ntmps5
    go_wp2_with (first | (go_at_call 7; (refine (hN.out _ (Ext.refl w)).mono ?_; rintro ee w1 ⟨q, rfl, hq1, hq2, hx1⟩; have hX1 := hide ((Ext.refl w).trans hx1); have hlt1 := hq1.lt.1; haveI : In q w1 := ⟨hlt1⟩; replace hq1 := hide hq1; clear hx1)) | (go_at_call 9; (refine (hP.out _ _ hX1.out hq1.out).mono ?_; rintro ee w2 ⟨rfl, ⟨P2, p1, p2⟩, p3⟩; have hX2 := hide (p3.ext hX1.out (Nat.le_refl _)); have hs2 := hX2.out.size; replace p1 : ths P2 = l := p1; rw [Int.zero_add] at p2; replace p1 := hide p1; replace p2 := hide p2; replace p3 := hide p3; have hlt2 := p2.out.lt.1; haveI : In q w2 := ⟨hlt2⟩)))
    have hB1 := hide (World.ownsRow_lit (base := w2.heap.size) (e := 27) (size := 2) w2 #[] 0 (Nat.le_refl _) (by decide) rfl)
    have hlit : Hid (OwnJ (w2.alloc (.cells #[] 27)) w2.heap.size (.slice (some ⟨w2.heap.size, 0, none⟩) 0 0) (outs 0 l)) := hB1.out
    have hq0 : Hid (∃ P' m, ths P' = pkL 0 l ∧ QS (w2.alloc (.cells #[] 27)) w.heap.size q P' m) := ⟨P2, _, p1.out, p2.out.ext ((Ext.refl w2).alloc _)⟩
    have hX20 := hide (hX2.out.alloc (.cells #[] 27))
    clear hN hP hB1 hq1 p1 p2 p3
    go_loopg [4, 5] l.length (fun gh u i wr => ∃ (k : Nat), i = .int .i64 k ∧ k + gh = l.length ∧ Hid (∃ P' m, ths P' = pkL k l ∧ QS wr w.heap.size q P' m) ∧ Hid (OwnJ wr w2.heap.size u (outs k l)) ∧ Hid (Ext w wr) ∧ w2.heap.size < wr.heap.size)
    case atStart => exact ⟨0, rfl, by omega, hq0, hlit, hX20, by simp⟩
    case round =>
      obtain ⟨k, rfl, hk, hQ, hu, hX, hsz⟩ := hrel
      clear hq0 hlit hX20
      obtain ⟨A, cap, rfl⟩ := own_form hu.out
      rw [outs_length] at *
      have hwb := hX.out.size
      by_cases hlt : k < l.length
      · have hkI : (k : Int) < l.length := by omega
        have hk200 : k ≤ 200 := by omega
        obtain ⟨P', m, hth, hQS⟩ := hQ.out
        have hpl := pkL_length l k (by omega)
        have hPl : P'.length = l.length - k := by rw [← hpl, ← hth]; simp [ths]
        have hPo := hide (fun w' (hX' : Ext wr w') => pop_c w.heap.size q P' (by omega) m w' (by have := hX'.size; omega) (hQS.ext hX'))
        rw [decide_eq_true (show 0 < P'.length by omega), hth] at hPo
        obtain ⟨⟨xa, xn⟩, hx⟩ : ∃ x, x = hdL (pkL k l) := ⟨_, rfl⟩
        rw [← hx] at hPo
        have hxh := hide hx
        have hon := hide (outs_next k l)
        rw [← hx] at hon
        have hol := hide (outs_length k l)
        have hpk := hide (show pkL (k + 1) l = popL (pkL k l) from rfl)
        have hrise := hide (fun k' (e : k = k' + 1) => outs_rise l k' (by omega))
        clear hQ hQS hth hpl hPl hx
        generalize popL (pkL k l) = L2 at *
        rcases k with _ | j
        · have hz0 : decide ((0 : Int) < 0) = false := by decide
          go_wp2_with (first | (go_at_call 10; (refine (hPo.out _ (Ext.refl _)).mono ?_; rintro ee w7 ⟨rfl, ⟨P7, s1, s2⟩, s3⟩; have hu7 := s3.own hu.out (by decide); rw [hol.out] at hu7; have hX7 := hide (s3.ext hX.out (Nat.le_refl _)); have hs7 := s3.size; replace s1 := hide s1; replace s2 := hide s2; replace hu7 := hide hu7; clear s3)))
          go_quiet (fail)
          go_wp2_with (at_builtin; (refine wpl_app tJmp rfl (.tmp 50) (.tmp 52) rfl rfl (own_ext hu7.out ((((Ext.refl w7).alloc (.cells #[.int .i64 xa, .int .i64 xn] 27)).drewN _).alloc _)) rfl (src_jmpAt Try.underlying30 _ _ (by simp) (xa, xn) _) (by unfold maxLen; omega) (by omega) (by simp; omega) ?_; intro v8 w8 ho8 hg8 hd8; replace ho8 := hide ho8))
          have A7 := (((Ext.refl w7).alloc (.cells #[.int .i64 xa, .int .i64 xn] 27)).drewN nq).alloc (.cells #[.int .i64 xa, .int .i64 xn] 27)
          have hQ8 := (s2.out.ext A7).ft (Ts := [27]) ((Ft.refl _).grown hg8 (fun kk hk => by obtain ⟨u1, u2, u3, u4⟩ := own_typed (own_ext hu7.out A7) kk hk; exact ⟨by omega, u2, _, u3, u4, by simp⟩)) (by decide) (by decide)
          have hX8 := ext_grown (((hX7.out.alloc (.cells #[.int .i64 xa, .int .i64 xn] 27)).drewN nq).alloc (.cells #[.int .i64 xa, .int .i64 xn] 27)) hg8 (fun kk hk => by have := ((own_ext hu7.out A7).lt kk hk).1; omega)
          have hs8 := hg8.size
          have ho9 : OwnJ w8 w2.heap.size v8 (outs (0 + 1) l) := by rw [hon.out]; exact own_appJ (by rw [hol.out]; exact ho8.out)
          have hs9 : w2.heap.size < w8.heap.size := by simp at hs8; omega
          go_roundg (l.length - (0 + 1))
          case measure => omega
          case rel => exact ⟨0 + 1, by go_num, by omega, ⟨P7, _, by rw [hpk.out]; exact s1.out, hQ8⟩, ho9, hX8, hs9⟩
        · obtain ⟨y, hy⟩ : ∃ y, (outs (j + 1) l)[j]? = some y := ⟨_, List.getElem?_eq_getElem (by rw [outs_length]; omega)⟩
          have hyv : y = hdL (pkL j l) := by
            rw [outs_next, List.getElem?_append_right (by rw [outs_length]; omega), outs_length, Nat.sub_self] at hy
            simpa using hy.symm
          have hle := hrise.out j rfl
          rw [← hxh.out, ← hyv] at hle
          have hycells := hide (fun w' (ho : OwnJ w' w2.heap.size (.slice A (j + 1) cap) (outs (j + 1) l)) => by
            obtain ⟨A', cap', e', -, -, hat'⟩ := jw_form (own_jw (S := []) ho (by simp))
            simp only [Value.slice.injEq] at e'
            obtain ⟨rfl, -, rfl⟩ := e'
            exact hat' j y hy)
          obtain ⟨ya, yn⟩ := y
          simp only at hle
          have hyd : decide (xa < ya) = false := decide_eq_false (by omega)
          have hjp : (0 : Int) < (j : Int) + 1 := by omega
          have hjd : decide ((0 : Int) < (j : Int) + 1) = true := decide_eq_true hjp
          have hjI : (j : Int) < (j : Int) + 1 := by omega
          clear hy hyv hle
          go_wp2_with (first | (go_at_call 10; (refine (hPo.out _ (Ext.refl _)).mono ?_; rintro ee w7 ⟨rfl, ⟨P7, s1, s2⟩, s3⟩; have hu7 := s3.own hu.out (by decide); rw [hol.out] at hu7; obtain ⟨yb, yo, ye, -, ybl, y0, -⟩ := hycells.out _ (s3.own hu.out (by decide)); subst ye; haveI : In yb w7 := ⟨ybl⟩; have hX7 := hide (s3.ext hX.out (Nat.le_refl _)); have hs7 := s3.size; replace s1 := hide s1; replace s2 := hide s2; replace hu7 := hide hu7; clear s3)))
          go_quiet (fail)
          go_wp2_with (at_builtin; (refine wpl_app tJmp rfl (.tmp 50) (.tmp 52) rfl rfl (own_ext hu7.out ((((Ext.refl w7).alloc (.cells #[.int .i64 xa, .int .i64 xn] 27)).drewN _).alloc _)) rfl (src_jmpAt Try.underlying30 _ _ (by simp) (xa, xn) _) (by unfold maxLen; omega) (by omega) (by simp; omega) ?_; intro v8 w8 ho8 hg8 hd8; replace ho8 := hide ho8))
          have A7 := (((Ext.refl w7).alloc (.cells #[.int .i64 xa, .int .i64 xn] 27)).drewN nq).alloc (.cells #[.int .i64 xa, .int .i64 xn] 27)
          have hQ8 := (s2.out.ext A7).ft (Ts := [27]) ((Ft.refl _).grown hg8 (fun kk hk => by obtain ⟨u1, u2, u3, u4⟩ := own_typed (own_ext hu7.out A7) kk hk; exact ⟨by omega, u2, _, u3, u4, by simp⟩)) (by decide) (by decide)
          have hX8 := ext_grown (((hX7.out.alloc (.cells #[.int .i64 xa, .int .i64 xn] 27)).drewN nq).alloc (.cells #[.int .i64 xa, .int .i64 xn] 27)) hg8 (fun kk hk => by have := ((own_ext hu7.out A7).lt kk hk).1; omega)
          have hs8 := hg8.size
          have ho9 : OwnJ w8 w2.heap.size v8 (outs ((j + 1) + 1) l) := by rw [hon.out]; exact own_appJ (by rw [hol.out]; exact ho8.out)
          have hs9 : w2.heap.size < w8.heap.size := by simp at hs8; omega
          go_roundg (l.length - ((j + 1) + 1))
          case measure => omega
          case rel => exact ⟨(j + 1) + 1, by go_num, by omega, ⟨P7, _, by rw [hpk.out]; exact s1.out, hQ8⟩, ho9, hX8, hs9⟩
      · have hge : (l.length : Int) ≤ k := by omega
        obtain rfl : k = l.length := by omega
        have hperm := hide (outs_all l)
        have hol := hide (outs_length l.length l)
        have hQ0 : Hid (∃ P' m, P' = [] ∧ QS wr w.heap.size q P' m) := by
          obtain ⟨P', m, h1, h2⟩ := hQ.out
          refine ⟨P', m, ?_, h2⟩
          have e1 := congrArg List.length h1
          rw [pkL_length _ _ (Nat.le_refl _)] at e1
          exact List.eq_nil_of_length_eq_zero (by simpa [ths] using e1)
        obtain ⟨oA, ocap, oe, -, -, oat⟩ := jw_form (own_jw (S := []) hu.out (by simp))
        simp only [Value.slice.injEq] at oe
        obtain ⟨rfl, -, rfl⟩ := oe
        replace oat := hide oat
        clear hQ hu
        generalize outs l.length l = O at *
        go_wp2_with fail
        obtain ⟨wo, hwo⟩ : ∃ wo : World, wo = wr := ⟨_, rfl⟩
        subst hwo
        go_loopg [8] l.length (fun gh i wr => ∃ (k : Nat), i = .int .i64 k ∧ k + gh = l.length ∧ Ext wo wr)
        case atStart => exact ⟨0, rfl, by omega, Ext.refl wo⟩
        case round =>
          obtain ⟨k, rfl, hk2, hY⟩ := hrel
          by_cases hlt2 : k < l.length
          · have hkI : (k : Int) < l.length := by omega
            obtain ⟨x, hx⟩ : ∃ x, l[k]? = some x := ⟨_, List.getElem?_eq_getElem hlt2⟩
            obtain ⟨b, o, rfl, -, hbl, c0, c1⟩ := hat.out k x hx
            have x0 := hide (jcell_later hX.out c0)
            have x1 := hide (jcell_later hX.out c1)
            have hcnt := hide (show ((l.count x : Nat) : Int) - ((O.count x : Nat) : Int) = 0 by rw [hperm.out.count_eq x]; omega)
            clear c0 c1 hx
            go_wp2_with fail
            obtain ⟨wi, hwi⟩ : ∃ wi : World, wi = wr := ⟨_, rfl⟩
            subst hwi
            go_loopg [9, 10] l.length (fun gh n j wr => ∃ (i : Nat), j = .int .i64 i ∧ n = .int .i64 (((l.take i).count x : Nat) - ((O.take i).count x : Nat) : Int) ∧ i + gh = l.length ∧ Ext wi wr)
            case atStart => exact ⟨0, rfl, by simp, by omega, Ext.refl wi⟩
            case round =>
              obtain ⟨i, rfl, rfl, hi, hZ⟩ := hrel
              by_cases hlt3 : i < l.length
              · have hiI : (i : Int) < l.length := by omega
                obtain ⟨y, hy⟩ : ∃ y, l[i]? = some y := ⟨_, List.getElem?_eq_getElem hlt3⟩
                obtain ⟨z, hz⟩ : ∃ z, O[i]? = some z := ⟨_, List.getElem?_eq_getElem (by rw [hol.out]; exact hlt3)⟩
                obtain ⟨b2, o2, e2, -, -, d0, d1⟩ := hat.out i y hy
                simp only [Option.some.injEq, Addr.mk.injEq, and_true] at e2
                obtain ⟨rfl, rfl⟩ := e2
                obtain ⟨b3, o3, rfl, -, -, f0, f1⟩ := oat.out i z hz
                have YZ := hY.trans hZ
                have a0 := jcell_later YZ x0.out
                have a1 := jcell_later YZ x1.out
                have m0 := jcell_later YZ (jcell_later hX.out d0)
                have m1 := jcell_later YZ (jcell_later hX.out d1)
                have z0 := jcell_later YZ f0
                have z1 := jcell_later YZ f1
                have hbr : b < wr.heap.size := block_lt_of_cell a0
                have hbr3 : b3 < wr.heap.size := block_lt_of_cell z0
                haveI : In b wr := ⟨hbr⟩
                haveI : In b3 wr := ⟨hbr3⟩
                have c1e : (l.take (i + 1)).count x = (l.take i).count x + (if y = x then 1 else 0) := by rw [take_snoc hy, List.count_append, List.count_singleton]; by_cases h : y = x <;> simp [h]
                have c2e : (O.take (i + 1)).count x = (O.take i).count x + (if z = x then 1 else 0) := by rw [take_snoc hz, List.count_append, List.count_singleton]; by_cases h : z = x <;> simp [h]
                have q1 : (l.take i).count x ≤ 200 := Nat.le_trans List.count_le_length (by rw [List.length_take]; omega)
                have q2 : (O.take i).count x ≤ 200 := Nat.le_trans List.count_le_length (by rw [List.length_take]; omega)
                generalize (l.take i).count x = n1 at *
                generalize (O.take i).count x = n2 at *
                clear d0 d1 f0 f1 hy hz x0 x1 hat oat hperm hcnt hol
                obtain ⟨ya, yn⟩ := y
                obtain ⟨za, zn⟩ := z
                obtain ⟨xa, xn⟩ := x
                simp only at a0 a1 m0 m1 z0 z1
                by_cases hyx : ((ya, yn) : Jp) = (xa, xn) <;> by_cases hzx : ((za, zn) : Jp) = (xa, xn)
                · rw [if_pos hyx] at c1e
                  rw [if_pos hzx] at c2e
                  have ew1 : Hid ((((l.take (i + 1)).count ((xa, xn) : Jp) : Nat) : Int) - (((O.take (i + 1)).count ((xa, xn) : Jp) : Nat) : Int) = ((n1 : Int) - (n2 : Int)) + 1 - 1) := by show _ = _; omega
                  replace c1e := hide c1e
                  replace c2e := hide c2e
                  have hjs := eql_jsame (xa, xn)
                  cases hyx
                  cases hzx
                  go_wp2_with fail
                  go_quiet (fail)
                  go_wp2_with fail
                  go_quiet (fail)
                  go_wp2_with fail
                  go_roundg (l.length - (i + 1))
                  case measure => omega
                  case rel => exact ⟨i + 1, by go_num, congrArg (Value.int .i64) (by have := ew1.out; omega), by omega, by first | exact (hZ.drewN _).drewN _ | exact hZ.drewN _⟩
                · rw [if_pos hyx] at c1e
                  rw [if_neg hzx] at c2e
                  have ew1 : Hid ((((l.take (i + 1)).count ((xa, xn) : Jp) : Nat) : Int) - (((O.take (i + 1)).count ((xa, xn) : Jp) : Nat) : Int) = ((n1 : Int) - (n2 : Int)) + 1 - 0) := by show _ = _; omega
                  replace c1e := hide c1e
                  replace c2e := hide c2e
                  have hjs := eql_jsame (xa, xn)
                  cases hyx
                  have hzn := eql_jother hzx
                  replace hzx := hide hzx
                  go_wp2_with fail
                  go_quiet (fail)
                  go_wp2_with fail
                  go_quiet (fail)
                  go_wp2_with fail
                  go_roundg (l.length - (i + 1))
                  case measure => omega
                  case rel => exact ⟨i + 1, by go_num, congrArg (Value.int .i64) (by have := ew1.out; omega), by omega, by first | exact (hZ.drewN _).drewN _ | exact hZ.drewN _⟩
                · rw [if_neg hyx] at c1e
                  rw [if_pos hzx] at c2e
                  have ew1 : Hid ((((l.take (i + 1)).count ((xa, xn) : Jp) : Nat) : Int) - (((O.take (i + 1)).count ((xa, xn) : Jp) : Nat) : Int) = ((n1 : Int) - (n2 : Int)) + 0 - 1) := by show _ = _; omega
                  replace c1e := hide c1e
                  replace c2e := hide c2e
                  have hjs := eql_jsame (xa, xn)
                  have hyn := eql_jother hyx
                  replace hyx := hide hyx
                  cases hzx
                  go_wp2_with fail
                  go_quiet (fail)
                  go_wp2_with fail
                  go_quiet (fail)
                  go_wp2_with fail
                  go_roundg (l.length - (i + 1))
                  case measure => omega
                  case rel => exact ⟨i + 1, by go_num, congrArg (Value.int .i64) (by have := ew1.out; omega), by omega, by first | exact (hZ.drewN _).drewN _ | exact hZ.drewN _⟩
                · rw [if_neg hyx] at c1e
                  rw [if_neg hzx] at c2e
                  have ew1 : Hid ((((l.take (i + 1)).count ((xa, xn) : Jp) : Nat) : Int) - (((O.take (i + 1)).count ((xa, xn) : Jp) : Nat) : Int) = ((n1 : Int) - (n2 : Int)) + 0 - 0) := by show _ = _; omega
                  replace c1e := hide c1e
                  replace c2e := hide c2e
                  have hjs := eql_jsame (xa, xn)
                  have hyn := eql_jother hyx
                  replace hyx := hide hyx
                  have hzn := eql_jother hzx
                  replace hzx := hide hzx
                  go_wp2_with fail
                  go_quiet (fail)
                  go_wp2_with fail
                  go_quiet (fail)
                  go_wp2_with fail
                  go_roundg (l.length - (i + 1))
                  case measure => omega
                  case rel => exact ⟨i + 1, by go_num, congrArg (Value.int .i64) (by have := ew1.out; omega), by omega, by first | exact (hZ.drewN _).drewN _ | exact hZ.drewN _⟩
              · have hge3 : (l.length : Int) ≤ i := by omega
                rw [List.take_of_length_le (show l.length ≤ i by omega), List.take_of_length_le (show O.length ≤ i by rw [hol.out]; omega)]
                have hcn := hcnt.out
                generalize ((l.count x : Nat) : Int) - ((O.count x : Nat) : Int) = cn at *
                subst hcn
                clear hat oat hperm x0 x1
                go_wp2_with fail
                go_roundg (l.length - (k + 1))
                case measure => omega
                case rel => exact ⟨k + 1, by go_num, by omega, hY.trans hZ⟩
          · have hge2 : (l.length : Int) ≤ k := by omega
            obtain ⟨P', m, rfl, hQS⟩ := hQ0.out
            have hLn := hide (fun w' (hX' : Ext wo w') => qlen_c w.heap.size q [] m w' (hQS.ext hX'))
            clear hQ0 hat oat hperm hQS
            go_wp2_with (first | (go_at_call 6; first | ((with_reducible refine seq_gw' (queLive_c _) ?_); intro g0) | ((with_reducible refine seq_gw (queLive_c _) ?_); intro g0)) | (go_at_call 14; (with_reducible refine seq_gw' (hLn.out _ (hY.trans g0.grown)) ?_); intro g3))
            go_returns
            exact ⟨by first | rfl | simp, hX.out.trans (hY.trans g3.grown)⟩
  · have hlI : (200 : Int) < l.length := by omega
    obtain ⟨VA, acap, rfl, -, -, -⟩ := jw_form h
    clear h hl
    go_enter Try.func5, Try.ntmps5
    go_wp2_with (go_at_call 6; first | ((with_reducible refine seq_gw' (queLive_c _) ?_); intro g0) | ((with_reducible refine seq_gw (queLive_c _) ?_); intro g0))
    go_returns
    exact ⟨by first | rfl | simp, g0.grown⟩

theorem own : ownKnob Try.prog.godebug = none := by kernel_rfl
theorem laidOut : laidOutB Try.prog = true := by kernel_rfl
set_option maxRecDepth 100000 in
theorem lifted (os : Os) (started : os.Started) (H : Type) (enc : TypeId × Value → H) :
    ReturnsInHanded {} Try.checked os 5 .any (Rows.queueSortsSpec.pre6 enc Try.prog Try.f5 Rows.queueSortsRow.domain false) (Rows.queueSortsSpec.post enc Try.prog Try.f5 false true false false) := by
  refine returnsInHanded_of_change_sized (C := Try.checked) own started (by kernel_rfl) Try.func5
    (ChangeSpec.witness6 (enc := enc) (C := Try.checked) false ⟨#[], #[.slice none 0 0], []⟩ 8 (by kernel_rfl) (by kernel_rfl) (by kernel_rfl) (by kernel_rfl)) ?_
  intro W base args ds gs before hval0 hW hcnd hsz0 _
  have hsz : (DataW.weightsEach Try.prog (Try.f5.params.toList ++ Rows.queueSortsSpec.plain.varTypes Try.prog) (ds ++ gs)).all (· ≤ reachBytes) = true := hsz0
  clear hsz0
  have hval : ∀ (j : Nat) t v, Try.f5.params[j]? = some t → args[j]? = some v → Value.okWide Try.prog W .any base t v := hval0
  have hW' := hW
  obtain ⟨p, q, hA0, hV, rfl, hfz, hnd⟩ := hW
  have hA : DataW.TrodAll enc Try.prog W 0 (fun _ => true) true Try.f5.params.toList args.toList ds p := hA0
  rw [Try.params5] at hA hval hsz
  obtain ⟨v0, vs0, d0, ds0, p0, q0, hargs, rfl, rfl, h0, r0⟩ := trodAll_cons hA
  obtain ⟨rfl, rfl, rfl⟩ := trodAll_nil r0
  obtain rfl : args = #[v0] := by cases args; simp_all
  obtain ⟨rfl, rfl⟩ := trodVars_none hV
  have k0 := h0
  have lt0 : ∀ x ∈ p0, x.block < W.heap.size := by obtain ⟨m, hm⟩ := k0; exact DataW.trod_lt m _ _ _ hm
  obtain ⟨A0, n0, c0, rfl⟩ := okWide_slice Try.underlying30 (hval 0 30 v0 rfl rfl)
  have ⟨m0, hm0⟩ := h0
  obtain ⟨l, ll, hl, ql⟩ := open_pairs Try.underlying30 Try.underlying27 (by kernel_rfl) rfl rfl (by kernel_rfl) (by kernel_rfl) Try.underlying3 Try.underlying3 hm0
  have zl : l.length ≤ 140737488351232 := by rw [ll]; exact sized_len hsz (j := 0) (t := 30) (e := 27) rfl rfl Try.underlying30 (of_decide_eq_true (by kernel_rfl))
  clear hA0 hval0
  refine (walk l _ W hl).mono fun e W' ⟨he, bel⟩ => ?_
  subst he
  exact ⟨_, rfl, _, _, _, [], _, [], hW', trodAll_mk1 (shut_bool Try.underlying4 _), (trodAll_cons_mk (Below.trod laidOut (by kernel_rfl) (of_decide_eq_true (by kernel_rfl)) k0 bel lt0) trodAll_mk0), rfl, bel.frame _, fun h => by cases h⟩

theorem over : Rows.queueSortsRow.holds Try.pinned (OpenSpec.ofChange Rows.queueSortsSpec) :=
  OpenClaim.holds_of_wide 5 Try.f5 rfl rfl rfl rfl rfl rfl rfl ⟨rfl, rfl, rfl, rfl, rfl⟩ rfl rfl rfl rfl rfl (by kernel_rfl) Try.func5 (by kernel_rfl)
    (of_decide_eq_true (by kernel_rfl)) (by unfold Func.isWrapper; first | (rw [if_pos (by decide +kernel)]; kernel_rfl) | (rw [if_neg (by decide +kernel)]; exact ⟨rfl, rfl⟩))
    (fun os started H enc _ => lifted os started H enc)

theorem queueSorts_holds : Rows.QueueSortsSaid := over
end Go.Proofs.Ytjibolpegijhkaa.queueSorts
