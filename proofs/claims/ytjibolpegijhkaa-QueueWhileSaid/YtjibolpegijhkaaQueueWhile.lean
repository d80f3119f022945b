/-
  Layer 15 (queue), 15.2: for every list of jumps (of which those of up to 200 count), and bound, what is taken out as long as it is below the bound is as the document says. No condition.
-/
import Derived.Test.YtjibolpegijhkaaQueK
import Derived.WalkKit
import Derived.ProofKit
import Derived.OpenShut
import Derived.ShutString
import Derived.ChangeOld
import Derived.Below
import Derived.Lib.SmallJoins
import Derived.SizedLaws
import Derived.Deep.CondSized
import Derived.JoinedCond
set_option linter.unusedVariables false
set_option linter.unusedSimpArgs false
namespace Go.Proofs.Ytjibolpegijhkaa.queueWhile
open Go.ChangeShapes Go.WideShapes Go.ChangeAt Go.RowKit Go.Joins
open Go.ChangeMaps (open_string shut_string)
attribute [local go_sem] GW.cell GW.frozen In.eq_true In.le_true In.ne In.ne' In.ne_add In.ne_add' In.lt_add Upto.le_true Upto.le_add Upto.lt_add
set_option maxHeartbeats 8000000 in
set_option maxRecDepth 100000 in
theorem walk (l : List Jp) (b : Int) (v : Value) (w : World) (h : Jw w [] v l) : Calls Try.prog 4 #[v, .int .i64 b] w fun e w' => e = .returned (.bool true) ∧ Ext w w' := by
  by_cases hl : l.length ≤ 200
  · have hlI : ¬ (200 : Int) < l.length := by omega
    have hN := hide (fun w' (hX : Ext w w') => new_c w.heap.size w' hX.size)
    have hP := hide (fun q w' (hX : Ext w w') (hQ : QS w' w.heap.size q [] 0) => push_c w.heap.size q [] l (by simp; omega) 0 (by omega) (by omega) v w' hQ (fun w'' k => Sl.ext h (k.ext hX (Nat.le_refl _))))
    have hb0 := hide (Ob.new w 3 [.int .i64 b])
    have hW := hide (fun q P n w' (h1 : ths P = l) (hB : w.heap.size ≤ w'.heap.size) (hQ : QS w' w.heap.size q P n) (hb : Ob w' w.heap.size 3 [.int .i64 b]) => show Calls Try.prog 15 #[.pointer (some ⟨q, 0, none⟩), .func (.func 16) #[] #[.pointer (some ⟨w.heap.size, 0, none⟩)]] w' fun e w'' => ∃ v, e = .returned v ∧ OwnJ w'' w'.heap.size v (outs (whN b l) l) ∧ (∃ P', ths P' = pkL (whN b l) l ∧ QS w'' w.heap.size q P' n) ∧ Ft w.heap.size Tq w' w'' from by
      have hPl : P.length = l.length := by rw [← h1]; simp [ths]
      have := while_c w.heap.size q P (by omega) n w.heap.size b w' hB hQ hb
      rw [h1] at this
      exact this)
    have hWl : whN b l ≤ l.length := whN_le b l
    have hlh := hide h
    obtain ⟨VA, acap, rfl, -, -, -⟩ := jw_form h
    have hwn := hide (fun n' => whN_is (b := b) (L := l) (n := n'))
    have hlit := hide (fun w' : World => World.ownsRow_lit (base := w'.heap.size) (e := 27) (size := 2) w' #[] 0 (Nat.le_refl _) (by decide) rfl)
    obtain ⟨W, hWd⟩ : ∃ W, W = whN b l := ⟨_, rfl⟩
    rw [← hWd] at hW hWl hwn
    replace hWd := hide hWd
    clear h
    go_enter Try.func4, Try.ntmps4
    go_wp2_with (first | (go_at_call 7; (refine (hN.out _ ((Ext.refl w).alloc _)).mono ?_; rintro ee w1 ⟨q, rfl, hq1, hq2, hx1⟩; have hX1 := hide (((Ext.refl w).alloc _).trans hx1); have hlt1 := hq1.lt.1; haveI : In q w1 := ⟨hlt1⟩; replace hq1 := hide hq1; have hx1a := hide hx1; clear hx1)) | (go_at_call 9; (refine (hP.out _ _ hX1.out hq1.out).mono ?_; rintro ee w2 ⟨rfl, ⟨P2, p1, p2⟩, p3⟩; have hX2 := hide (p3.ext hX1.out (Nat.le_refl _)); have hs2 := hX2.out.size; replace p1 : ths P2 = l := p1; rw [Int.zero_add] at p2; replace p1 := hide p1; replace p2 := hide p2; replace p3 := hide p3; have hlt2 := p2.out.lt.1; haveI : In q w2 := ⟨hlt2⟩)) | (go_at_call 15; (refine (hW.out _ _ _ _ p1.out hs2 p2.out (p3.out.ob (hb0.out.ext hx1a.out) (by decide))).mono ?_; rintro ee w3 ⟨va, rfl, o3, ⟨P3, r1, r2⟩, r3⟩; have hb3 := hide (r3.ob (p3.out.ob (hb0.out.ext hx1a.out) (by decide)) (by decide)); have hX3 := hide (r3.ext hX2.out (Nat.le_refl _)); have hs3 := r3.size; unfold OwnJ at o3; rw [outs_length] at o3; obtain ⟨A3, c3, q3⟩ := own_form o3; subst q3; replace o3 := hide o3; replace r1 := hide r1; replace r2 := hide r2; replace r3 := hide r3)) | (at_builtin; (refine wpl_app tJmp rfl (.tmp 24) (.tmp 25) rfl rfl (hlit.out _) rfl (src_sl Try.underlying30 (Sl.ext hlh.out (hX3.out.alloc _)) (ps_one _) (by omega)) (by unfold maxLen; omega) (by omega) (by simp) ?_; intro v5 w5 ho5 hg5 hd5; have Y5 := ext_grown ((Ext.refl w3).alloc _) hg5 (fun k hk => ((hlit.out w3).lt k hk).1); rw [Nat.zero_add, List.nil_append] at ho5; obtain ⟨A5, c5, q5⟩ := own_form ho5; subst q5; replace ho5 := hide ho5; replace Y5 := hide Y5; clear hg5 hd5)))
    have Z6 := hide ((Y5.out.alloc (.cells #[.slice A5 l.length c5] 32)).alloc (.cells #[] 27))
    have hs5 := Y5.out.size
    have hR6 : Hid (∃ vL, Rv ((w5.alloc (.cells #[.slice A5 l.length c5] 32)).alloc (.cells #[] 27)) w.heap.size w5.heap.size vL (pkL 0 l) ∧ ∀ x, vL.ownBlock = some x → (Value.slice (some ⟨w5.heap.size + 1, 0, none⟩) 0 0).ownBlock ≠ some x) :=
      ⟨_, ⟨by omega, (Ob.new w5 32 [.slice A5 l.length c5]).alloc _, own_base (own_ext ho5.out (((Ext.refl w5).alloc _).alloc _)) (by omega)⟩, fun x hx e => by
        have h1 := (ho5.out.lt x hx).2
        have h2 : w5.heap.size + 1 = x := by simpa [Value.ownBlock] using e
        omega⟩
    have hlit6 := hide (World.ownsRow_lit (base := w5.heap.size + 1) (e := 27) (size := 2) (w5.alloc (.cells #[.slice A5 l.length c5] 32)) #[] 0 (by simp) (by decide) rfl)
    rw [World.size_alloc] at hlit6
    have hvaB : ∀ x, (Value.slice A3 W c3).ownBlock = some x → x < w5.heap.size + 1 := fun x hx => by have := (o3.out.lt x hx).2; omega
    have hlit7 : Hid (OwnJ ((w5.alloc (.cells #[.slice A5 l.length c5] 32)).alloc (.cells #[] 27)) (w5.heap.size + 1) (.slice (some ⟨w5.heap.size + 1, 0, none⟩) 0 0) (outs 0 l)) := hlit6.out
    replace hvaB := hide hvaB
    have hfin : Hid (∀ (k : Nat) (u : Value) (wr : World), k = W → OwnJ wr (w5.heap.size + 1) u (outs k l) → wr.ownsRow w2.heap.size 27 2 (.slice A3 W c3) W (ps (outs W l)) → QS wr w.heap.size q P3 (l.length : Int) → (∀ w', Ext wr w' → Calls Try.prog 17 #[.slice A3 W c3, u] w' fun e w'' => e = .returned (.bool true) ∧ Ext w' w'') ∧ (∀ w', Ext wr w' → Calls Try.prog 14 #[.pointer (some ⟨q, 0, none⟩)] w' fun e w'' => e = .returned (.int .i64 ((l.length : Int) - (k : Int))) ∧ Ext w' w'')) := by
      intro k u wr hk ho1 ho2 hQ
      subst hk
      refine ⟨fun w' hX => ?_, fun w' hX => ?_⟩
      · have := refStepSame_c (outs k l) (outs k l) _ _ w' (own_jw (by unfold OwnJ; rw [outs_length]; exact own_ext ho2 hX) (by simp)) (own_jw (own_ext ho1 hX) (by simp))
        rwa [decide_eq_true rfl] at this
      · have := qlen_c w.heap.size q P3 l.length w' (hQ.ext hX)
        have e1 : (P3.length : Int) = (l.length : Int) - (k : Int) := by
          have h1 := congrArg List.length r1.out
          rw [pkL_length _ _ hWl] at h1
          simp only [ths, List.length_map] at h1
          omega
        rw [e1] at this
        exact this
    clear hN hP hW hb0
    go_loopg [8] l.length (fun gh u wr => ∃ (k : Nat), gh = l.length - k ∧ k ≤ l.length ∧ Hid (∀ i, i < k → (hdL (pkL i l)).1 < b) ∧ Hid (∃ vL, Rv wr w.heap.size w5.heap.size vL (pkL k l) ∧ ∀ x, vL.ownBlock = some x → u.ownBlock ≠ some x) ∧ Hid (OwnJ wr (w5.heap.size + 1) u (outs k l)) ∧ Hid (wr.ownsRow w2.heap.size 27 2 (.slice A3 W c3) W (ps (outs W l))) ∧ Hid (QS wr w.heap.size q P3 (l.length : Int)) ∧ Hid (Ext w wr) ∧ Hid (Ob wr w.heap.size 3 [.int .i64 b]) ∧ w5.heap.size + 1 < wr.heap.size)
    case atStart => exact ⟨0, rfl, Nat.zero_le _, fun i hi => absurd hi (Nat.not_lt_zero i), hR6, hlit7, own_ext o3.out Z6.out, r2.out.ext Z6.out, hX3.out.trans Z6.out, hb3.out.ext Z6.out, by simp⟩
    case round =>
      obtain ⟨k, hg, hk, hall, hRv, hu, hva, hQ, hX, hbo, hsz⟩ := hrel
      clear hR6 hlit7 hlit6 hb3
      obtain ⟨A, cap, rfl⟩ := own_form hu.out
      rw [outs_length] at *
      obtain ⟨vL, hRvL, hdj⟩ := hRv.out
      have hkl9 : (k : Int) ≤ 200 := by omega
      by_cases hlt : k < l.length
      · have hpl := pkL_length l k hk
        have hKp := hide (fun w' (hX' : Ext wr w') => rpeek_c w.heap.size w5.heap.size (pkL k l) (by omega) w' (Rs.ext ⟨hRvL.1, vL, hRvL.2.1, hRvL.2.2⟩ hX'))
        rw [hpl, decide_eq_true (show 0 < l.length - k by omega)] at hKp
        have hPp := hide (fun w' (hX' : Ext wr w') => rpop2_c w.heap.size w5.heap.size (pkL k l) (by omega) (by intro e; rw [e] at hpl; simp at hpl; omega) w' (by have := hX'.size; have := hX.out.size; omega) (Rs.ext ⟨hRvL.1, vL, hRvL.2.1, hRvL.2.2⟩ hX'))
        obtain ⟨⟨xa, xn⟩, hx⟩ : ∃ x, x = hdL (pkL k l) := ⟨_, rfl⟩
        rw [← hx] at hKp hPp
        have hxh := hide hx
        have b0 := hbo.out.cell 0 rfl
        have hbl := hbo.out.lt
        haveI : In w.heap.size wr := ⟨hbl⟩
        have hltI : (k : Int) < l.length := by omega
        clear hRv hRvL hpl hx
        by_cases hb : xa < b
        · have hbn : decide (b ≤ xa) = false := decide_eq_false (by omega)
          have hall2 := hide (show ∀ i, i < k + 1 → (hdL (pkL i l)).1 < b from fun i hi => by
            rcases Nat.lt_or_ge i k with h | h
            · exact hall.out i h
            · obtain rfl : i = k := by omega
              rw [← hxh.out]; exact hb)
          have hon := hide (outs_next k l)
          rw [← hxh.out] at hon
          have hol := hide (outs_length k l)
          have hpk := hide (show pkL (k + 1) l = popL (pkL k l) from rfl)
          replace hb := hide hb
          generalize popL (pkL k l) = L2 at *
          go_wp2_with (first | (go_at_call 13; ((with_reducible refine seq_gw (hKp.out _ (Ext.refl _)) ?_); intro g1)) | (go_at_call 11; (refine (hPp.out _ (g1.grown.alloc _)).mono ?_; rintro ee w7 ⟨rfl, ⟨v7, s1, s2⟩, s3⟩; have OX7 := s3.ob (Ob.new g1.val 27 [.int .i64 xa, .int .i64 xn]) (by decide); have k0 := OX7.cell 0 rfl; have k1 := OX7.cell 1 rfl; have kl := OX7.lt; haveI : In g1.val.heap.size w7 := ⟨kl⟩; have E7 := hide (g1.grown.alloc (.cells #[.int .i64 xa, .int .i64 xn] 27)); have hu7 := s3.own (own_ext hu.out E7.out) (by decide); rw [hol.out] at hu7; have hva7 := hide (s3.own (own_ext hva.out E7.out) (by decide)); have hQ7 := hide ((hQ.out.ext E7.out).ft s3 (by decide) (by decide)); have hX7 := hide (s3.ext (hX.out.trans E7.out) (Nat.le_refl _)); have hb7 := hide (s3.ob (hbo.out.ext E7.out) (by decide)); have hs7 := s3.size; have hse := E7.out.size; have hdj7 : Hid (∀ x, v7.ownBlock = some x → (Value.slice A k cap).ownBlock ≠ some x) := (fun x hx e => by have h1 := s2 x hx; have h2 := (hu.out.lt x e).2; omega); replace s1 := hide s1; replace s3 := hide s3; replace hu7 := hide hu7; clear OX7 s2)) | (at_builtin; (refine wpl_app tJmp rfl (.tmp 46) (.tmp 48) rfl rfl (own_ext hu7.out ((Ext.refl w7).alloc _)) rfl (src_jmp Try.underlying30 w7 (xa, xn) _) (by unfold maxLen; omega) (by omega) (by simp only [World.size_alloc]; omega) ?_; intro v8 w8 ho8 hg8 hd8; replace ho8 := hide ho8)))
          have A7 := (Ext.refl w7).alloc (.cells #[.int .i64 xa, .int .i64 xn] 27)
          have hQ8 := (hQ7.out.ext A7).ft (Ts := [27]) ((Ft.refl _).grown hg8 (fun kk hk => by obtain ⟨u1, u2, u3, u4⟩ := own_typed (own_ext hu7.out A7) kk hk; exact ⟨by have := hX.out.size; omega, u2, _, u3, u4, by simp⟩)) (by decide) (by decide)
          have hX8 := ext_grown (hX7.out.alloc (.cells #[.int .i64 xa, .int .i64 xn] 27)) hg8 (fun kk hk => by have := ((own_ext hu7.out A7).lt kk hk).1; have := hX3.out.size; omega)
          have hb8 := (hb7.out.ext A7).grown hg8 (fun e => by have := ((own_ext hu7.out A7).lt _ e.symm).1; have := hX3.out.size; omega)
          have hva8 := own_grown (own_ext hva7.out A7) hg8 (fun x hx e => by have h1 := ((own_ext hu7.out A7).lt x e).1; have h2 := hvaB.out x hx; omega)
          have hr8 : ∃ vL, Rv w8 w.heap.size w5.heap.size vL (pkL (k + 1) l) ∧ ∀ x, vL.ownBlock = some x → v8.ownBlock ≠ some x := by
            obtain ⟨t1, t2, t3⟩ := s1.out
            refine ⟨v7, ⟨t1, (t2.ext A7).grown hg8 (fun e => ?_), ?_⟩, fun x hx e => ?_⟩
            · exact Ob.not_own (t2.ext A7) (own_ext hu7.out A7) (by decide) e.symm
            · rw [hpk.out]
              exact own_grown (own_ext t3 A7) hg8 (fun x hx e => hdj7.out x hx e)
            · rcases hd8 with hd8 | hd8
              · exact hdj7.out x hx (hd8.symm.trans e)
              · have h1 : (w7.alloc (.cells #[.int .i64 xa, .int .i64 xn] 27)).heap.size = x := by rw [hd8] at e; exact Option.some.inj e
                have h2 := (t3.lt x hx).2
                rw [World.size_alloc] at h1
                omega
          have ho9 : OwnJ w8 (w5.heap.size + 1) v8 (outs (k + 1) l) := by rw [hon.out]; exact own_appJ (by rw [hol.out]; exact ho8.out)
          have hs8 := hg8.size
          rw [World.size_alloc] at hs8
          go_roundg (l.length - (k + 1))
          case measure => omega
          case rel => exact ⟨k + 1, rfl, by omega, hall2.out, hr8, ho9, hva8, hQ8, hX8, hb8, by omega⟩
        · have hbn : decide (b ≤ xa) = true := decide_eq_true (by omega)
          have hkW : k = W := (hwn.out k hk hall.out (.inr (by rw [← hxh.out]; omega))).symm
          obtain ⟨hSm, hLn⟩ := hfin.out k _ wr hkW hu.out hva.out hQ.out
          replace hSm := hide hSm
          replace hLn := hide hLn
          replace hkW := hide hkW
          replace hb := hide hb
          clear hfin hwn hall hPp
          go_wp2_with (first | (go_at_call 13; (with_reducible refine seq_gw (hKp.out _ (Ext.refl _)) ?_); intro g1) | (go_at_call 6; first | ((with_reducible refine seq_gw' (queLive_c _) ?_); intro g0) | ((with_reducible refine seq_gw (queLive_c _) ?_); intro g0)) | (go_at_call 17; (with_reducible refine seq_gw' (hSm.out _ ((g1.grown.alloc _).trans g0.grown)) ?_); intro g2) | (go_at_call 14; (with_reducible refine seq_gw' (hLn.out _ ((g1.grown.alloc _).trans g2.grown)) ?_); intro g3))
          go_returns
          exact ⟨by first | rfl | simp, hX.out.trans ((g1.grown.alloc _).trans g3.grown)⟩
      · have hkl : k = l.length := by omega
        have hkW : k = W := (hwn.out k hk hall.out (.inl hkl)).symm
        obtain ⟨hSm, hLn⟩ := hfin.out k _ wr hkW hu.out hva.out hQ.out
        have hge : (l.length : Int) ≤ k := by omega
        replace hSm := hide hSm
        replace hLn := hide hLn
        replace hkW := hide hkW
        replace hkl := hide hkl
        clear hfin hwn hall hRv hlt
        go_wp2_with (first | (go_at_call 6; first | ((with_reducible refine seq_gw' (queLive_c _) ?_); intro g0) | ((with_reducible refine seq_gw (queLive_c _) ?_); intro g0)) | (go_at_call 17; (with_reducible refine seq_gw' (hSm.out _ g0.grown) ?_); intro g2) | (go_at_call 14; (with_reducible refine seq_gw' (hLn.out _ g2.grown) ?_); intro g3))
        go_returns
        exact ⟨by first | rfl | simp, hX.out.trans g3.grown⟩
  · have hlI : (200 : Int) < l.length := by omega
    obtain ⟨VA, acap, rfl, -, -, -⟩ := jw_form h
    clear h hl
    go_enter Try.func4, Try.ntmps4
    go_wp2_with (go_at_call 6; first | ((with_reducible refine seq_gw' (queLive_c _) ?_); intro g0) | ((with_reducible refine seq_gw (queLive_c _) ?_); intro g0))
    go_returns
    exact ⟨by first | rfl | simp, ((Ext.refl w).alloc _).trans g0.grown⟩

theorem own : ownKnob Try.prog.godebug = none := by kernel_rfl
theorem laidOut : laidOutB Try.prog = true := by kernel_rfl
set_option maxRecDepth 100000 in
theorem lifted (os : Os) (started : os.Started) (H : Type) (enc : TypeId × Value → H) :
    ReturnsInHanded {} Try.checked os 4 .any (Rows.queueWhileSpec.pre6 enc Try.prog Try.f4 Rows.queueWhileRow.domain false) (Rows.queueWhileSpec.post enc Try.prog Try.f4 false true false false) := by
  refine returnsInHanded_of_change_sized (C := Try.checked) own started (by kernel_rfl) Try.func4
    (ChangeSpec.witness6 (enc := enc) (C := Try.checked) false ⟨#[], #[.slice none 0 0, .int .i64 0], []⟩ 8 (by kernel_rfl) (by kernel_rfl) (by kernel_rfl) (by kernel_rfl)) ?_
  intro W base args ds gs before hval0 hW hcnd hsz0 _
  have hsz : (DataW.weightsEach Try.prog (Try.f4.params.toList ++ Rows.queueWhileSpec.plain.varTypes Try.prog) (ds ++ gs)).all (· ≤ reachBytes) = true := hsz0
  clear hsz0
  have hval : ∀ (j : Nat) t v, Try.f4.params[j]? = some t → args[j]? = some v → Value.okWide Try.prog W .any base t v := hval0
  have hW' := hW
  obtain ⟨p, q, hA0, hV, rfl, hfz, hnd⟩ := hW
  have hA : DataW.TrodAll enc Try.prog W 0 (fun _ => true) true Try.f4.params.toList args.toList ds p := hA0
  rw [Try.params4] at hA hval hsz
  obtain ⟨v0, vs0, d0, ds0, p0, q0, hargs, rfl, rfl, h0, r0⟩ := trodAll_cons hA
  obtain ⟨v1, vs1, d1, ds1, p1, q1, rfl, rfl, rfl, h1, r1⟩ := trodAll_cons r0
  obtain ⟨rfl, rfl, rfl⟩ := trodAll_nil r1
  obtain rfl : args = #[v0, v1] := by cases args; simp_all
  obtain ⟨rfl, rfl⟩ := trodVars_none hV
  have k0 := h0
  have lt0 : ∀ x ∈ p0, x.block < W.heap.size := by obtain ⟨m, hm⟩ := k0; exact DataW.trod_lt m _ _ _ hm
  obtain ⟨A0, n0, c0, rfl⟩ := okWide_slice Try.underlying30 (hval 0 30 v0 rfl rfl)
  have ⟨m0, hm0⟩ := h0
  obtain ⟨l, ll, hl, ql⟩ := open_pairs Try.underlying30 Try.underlying27 (by kernel_rfl) rfl rfl (by kernel_rfl) (by kernel_rfl) Try.underlying3 Try.underlying3 hm0
  have zl : l.length ≤ 140737488351232 := by rw [ll]; exact sized_len hsz (j := 0) (t := 30) (e := 27) rfl rfl Try.underlying30 (of_decide_eq_true (by kernel_rfl))
  have k1 := h1
  have lt1 : ∀ x ∈ p1, x.block < W.heap.size := by obtain ⟨m, hm⟩ := k1; exact DataW.trod_lt m _ _ _ hm
  obtain ⟨t, rfl, _, _, wt⟩ := open_int Try.underlying3 (hval 1 3 v1 rfl rfl) h1
  have ht := wf_i64 wt
  clear hA0 hval0
  refine (walk l t _ W hl).mono fun e W' ⟨he, bel⟩ => ?_
  subst he
  exact ⟨_, rfl, _, _, _, [], _, [], hW', trodAll_mk1 (shut_bool Try.underlying4 _), (trodAll_cons_mk (Below.trod laidOut (by kernel_rfl) (of_decide_eq_true (by kernel_rfl)) k0 bel lt0) (trodAll_cons_mk (Below.trod laidOut (by kernel_rfl) (of_decide_eq_true (by kernel_rfl)) k1 bel lt1) trodAll_mk0)), rfl, bel.frame _, fun h => by cases h⟩

theorem over : Rows.queueWhileRow.holds Try.pinned (OpenSpec.ofChange Rows.queueWhileSpec) :=
  OpenClaim.holds_of_wide 4 Try.f4 rfl rfl rfl rfl rfl rfl rfl ⟨rfl, rfl, rfl, rfl, rfl⟩ rfl rfl rfl rfl rfl (by kernel_rfl) Try.func4 (by kernel_rfl)
    (of_decide_eq_true (by kernel_rfl)) (by unfold Func.isWrapper; first | (rw [if_pos (by decide +kernel)]; kernel_rfl) | (rw [if_neg (by decide +kernel)]; exact ⟨rfl, rfl⟩))
    (fun os started H enc _ => lifted os started H enc)

theorem queueWhile_holds : Rows.QueueWhileSaid := over
end Go.Proofs.Ytjibolpegijhkaa.queueWhile
