/-
  Layer 24: the things that are told rise, each has copies, and together they are all there are.
-/
import Derived.Test.YtnneicdphlidhaaMulQ
import Derived.Test.YtnneicdphlidhaaArg
import Derived.Deep.LoopGhost
import Derived.WalkKit
import Derived.ProofKit
import Derived.OpenShut
import Derived.ShutString
import Derived.ChangeOld
import Derived.Below
import Derived.Lib.SmallJoins
import Derived.SizedLaws
import Derived.Deep.CondSized
import Derived.JoinedCond
import Derived.Test.YtnneicdphlidhaaRows
import Derived.Test.YtnneicdphlidhaaChecked
set_option linter.unusedVariables false
set_option linter.unusedSimpArgs false
namespace Go.Proofs.Ytnneicdphlidhaa.multiAll
open Go.ChangeShapes Go.WideShapes Go.ChangeAt Go.RowKit Go.Joins
open Go.ChangeMaps (open_string shut_string)
attribute [local go_sem] GW.cell GW.frozen In.eq_true In.le_true In.ne In.ne' In.ne_add In.ne_add' In.lt_add Upto.le_true Upto.le_add Upto.lt_add
theorem run_equalIn_func_nil {P : Program} {w : World} (d : Nat) (t : TypeId) {a b c} (f : Fn) (ts lb : Array Value) (h : P.underlying t = some (.func a b c)) : (Op.equalIn (d + 1) t (.func f ts lb) .nilFunc).run P w = .ok false w := by
  simp [Op.equalIn, run_underlying h]
theorem run_eql_func_nil {P : Program} {w : World} (t : TypeId) {a b c} (f : Fn) (ts lb : Array Value) (h : P.underlying t = some (.func a b c)) : (binOp .eql t (.func f ts lb) .nilFunc).run P w = .ok (.bool false) w := by
  have h2 : (Op.equal t (.func f ts lb) .nilFunc).run P w = .ok false w := run_equalIn_func_nil 9999 t f ts lb h
  simp only [binOp]
  simp [h2]
theorem run_told (f : Nat) (lb : Array Value) (w : World) : (binOp .eql 43 (.func (.func f) #[] lb) .nilFunc).run Try.prog w = .ok (.bool false) w := run_eql_func_nil _ _ _ _ Try.underlying43
attribute [local go_sem] run_told Oper.semAt_some wide_depth wide_fn
theorem ml_ext {W0 w : World} {b : Nat} {l : List Tg} {c : Int} (h : Ml W0 w b l c) : Ext W0 w := by obtain ⟨_, _, _, hX⟩ := h; exact hX
set_option maxHeartbeats 8000000 in
set_option maxRecDepth 100000 in
theorem walk (l : List (Int × Int)) (v : Value) (w : World) (h : Sl w [] 2 v l.length (ps l)) : Calls Try.prog 4 #[v] w fun e w' => e = .returned (.bool true) ∧ Ext w w' := by
  obtain ⟨A, cap, rfl, hlc, hlm, hat⟩ := thw_form (show Thw w [] v l from h)
  unfold maxLen at hlm
  have hatH := hide hat
  clear hat h
  refine calls_marks Try.func4 rfl ?_
  simp only [Try.ntmps4, List.size_toArray, List.length_cons, List.length_nil, Nat.reduceAdd, Nat.reduceSub, Array.replicate_succ, Array.replicate_zero, List.push_toArray, List.append_toArray, List.nil_append, List.cons_append]
  obtain ⟨WR, hWR⟩ : ∃ WR, WR = w.alloc (.cells #[.bool false] 4) := ⟨_, rfl⟩
  have hXR : Hid (Ext w WR) := by show Ext w WR; rw [hWR]; exact (Ext.refl w).alloc _
  have hR0 : Hid (Ob WR w.heap.size 4 [.bool false]) := by show Ob _ _ _ _; rw [hWR]; exact Ob.new w _ [_]
  by_cases h60 : l.length ≤ 60
  · have hl60 : ¬ (60 : Int) < l.length := by omega
    have hnew := hide (mnewM WR WR (Ext.refl _))
    go_wp2_with fail
    rw [← hWR]
    clear hWR
    refine hnew.out.mono ?_
    rintro ee w1 ⟨b, rfl, hM1⟩
    have hR1 := hide (hR0.out.ext (ml_ext hM1))
    replace hM1 := hide hM1
    obtain ⟨WC, hWC⟩ : ∃ WC, WC = w1.alloc (.cells #[.pointer (some ⟨b, 0, none⟩)] 24) := ⟨_, rfl⟩
    obtain ⟨C, hC⟩ : ∃ C, C = w1.heap.size := ⟨_, rfl⟩
    have hXC : Ext w1 WC := by rw [hWC]; exact (Ext.refl w1).alloc _
    have hC0 : Hid (Ob WC C 24 [.pointer (some ⟨b, 0, none⟩)]) := by show Ob _ _ _ _; rw [hWC, hC]; exact Ob.new w1 _ [_]
    have hR2 := hide (hR1.out.ext hXC)
    have hM2 := hide (hM1.out.later hXC)
    have hCw : Hid (w.heap.size < C) := by
      have h1 := (ml_ext hM1.out).size
      have h2 := hR0.out.lt
      show _ < C; omega
    go_wp2_with fail
    rw [← hWC, ← hC]
    clear hWC hC hXC hR1 hM1 hnew
    go_loopg [4] l.length (fun gh iv wr => ∃ (j : Nat) (L : List Tg) (c : Int), iv = .int .i64 j ∧ j + gh = l.length ∧ Hid (Ml WR wr b L c) ∧ Hid (Ob wr C 24 [.pointer (some ⟨b, 0, none⟩)]) ∧ Hid (Ob wr w.heap.size 4 [.bool false]))
    case atStart => exact ⟨0, [], 0, rfl, by omega, hM2, hC0, hR2⟩
    case round =>
      clear hM2 hC0 hR2
      obtain ⟨j, L, c, rfl, hj, hM, hCr, hRr⟩ := hrel
      have hXr : Ext WR wr := ml_ext hM.out
      have m0 := hCr.out.cell 0 rfl
      haveI : In C wr := ⟨hCr.out.lt⟩
      by_cases hlt : j < l.length
      · obtain ⟨x, hx⟩ : ∃ x, l[j]? = some x := ⟨_, List.getElem?_eq_getElem hlt⟩
        obtain ⟨b', o', rfl, -, hb', c0, c1⟩ := hatH.out j x hx
        have k0 := mcell_later (hXR.out.trans hXr) c0
        have k1 := mcell_later (hXR.out.trans hXr) c1
        haveI : In b' wr := ⟨block_lt_of_cell k0⟩
        have hjI : (j : Int) < l.length := by omega
        obtain ⟨xk, xn⟩ := x
        simp only at k0 k1
        have hput := hide (fun w' (hX : Ext wr w') => mputF xk xn WR w' b L c (hM.out.later hX))
        clear c0 c1 hx hb'
        go_wp2_with fail
        refine wp_region_gw_tail 11 (by kernel_rfl) (by kernel_rfl) ?_
        simp only [List.take_succ_cons, List.take_zero, List.drop_succ_cons, List.drop_zero]
        repeat (go_big_quiet_step (fail))
        refine wpQuiet_nil ?_
        intro g
        go_wp2_with (go_at_call 12; refine (hput.out _ g.grown).mono ?_; rintro ee w2 ⟨rfl, hM2, hO2⟩; have hC2 := hide (hO2 _ _ _ (hCr.out.ext g.grown) (by decide) (by decide)); have hR2 := hide (hO2 _ _ _ (hRr.out.ext g.grown) (by decide) (by decide)); replace hM2 := hide hM2; clear hO2)
        go_roundg (l.length - (j + 1))
        case measure => omega
        case rel => exact ⟨j + 1, _, _, by go_num, by omega, hM2, hC2, hR2⟩
      · have hge : (l.length : Int) ≤ j := by omega
        have hall := hide (mallM WR wr b L c hM.out)
        clear hatH
        go_wp2_with (go_at_call 21; (with_reducible refine hall.out.mono ?_); rintro ee w2 ⟨bx, v', rfl, hbx, hth, hX2⟩; have hM3 := hide (hM.out.later hX2); have hC3 := hide (hCr.out.ext hX2); have hR3 := hide (hRr.out.ext hX2); have mm0 := hC3.out.cell 0 rfl; replace hbx := hide hbx; replace hth := hide hth; replace hX2 := hide hX2; clear hM hCr hRr m0 hall)
        obtain ⟨W3, hW3⟩ : ∃ W3, W3 = ((w2.alloc (.cells #[.int .i64 0] 3)).alloc (.cells #[.int .i64 0] 3)).alloc (.cells #[.bool false] 4) := ⟨_, rfl⟩
        have hX3 : Ext w2 W3 := by rw [hW3]; exact (((Ext.refl w2).alloc _).alloc _).alloc _
        obtain ⟨U, hU⟩ : ∃ U, U = w2.heap.size := ⟨_, rfl⟩
        have o0 : Ob W3 U 3 [.int .i64 0] := by rw [hW3, hU]; exact ((Ob.new w2 _ [.int .i64 0]).alloc _).alloc _
        have o1 : Ob W3 (U + 1) 3 [.int .i64 0] := by rw [hW3, hU]; have := Ob.new (w2.alloc (.cells #[.int .i64 0] 3)) 3 [.int .i64 0]; rw [World.size_alloc] at this; exact this.alloc _
        have o2 : Ob W3 (U + 1 + 1) 4 [.bool false] := by rw [hW3, hU]; have := Ob.new ((w2.alloc (.cells #[.int .i64 0] 3)).alloc (.cells #[.int .i64 0] 3)) 4 [.bool false]; rwa [World.size_alloc, World.size_alloc] at this
        have hz3 := hX3.size
        have hwz : w.heap.size < U := by have h1 := hR3.out.lt; rw [hU]; exact h1
        have hCz : C < U := by have h1 := hC3.out.lt; rw [hU]; exact h1
        obtain ⟨vm, hmu, hgood, hXm⟩ := hM3.out
        have hbz : b < U := by rw [hU]; exact hmu.ob.lt
        have hbb : ∀ r, vm.ownBlock = some r → r < U := fun r hr => by rw [hU]; exact (hmu.own.lt r hr).2
        have hXw3 : Ext w W3 := (hXR.out.trans hXm).trans hX3
        rw [← hW3, ← hU]
        have hU2 : w2.heap.size ≤ U := Nat.le_of_eq hU.symm
        clear hW3 hU
        go_wp2
        have hwz3 := hXw3.size
        refine wp_range (xs := L) rfl (enters_of Try.func44 (by kernel_rfl) rfl) (each_seq L v' w2 W3 bx hth.out hX3 (hbx.out.ext hX3)) (Ext.refl _) hz3 (by rintro x vs W rfl; rfl) (fun x vs => Stab.pure _)
          (fun k W => (Ob W C 24 [.pointer (some ⟨b, 0, none⟩)] ∧ Ob W w.heap.size 4 [.bool false]) ∧ (Ob W U 3 [.int .i64 (sumT (L.take k))] ∧ Ob W (U + 1 + 1) 4 [.bool (decide (0 < k))] ∧ ∃ z, Ob W (U + 1) 3 [.int .i64 z] ∧ (0 < k → ∀ y ∈ L.drop k, z < y.1)) ∧ ((Ob W b 65 [cmpF, vm, .int .i64 c] ∧ W.ownsRow WR.heap.size 69 2 vm L.length (tgs L)) ∧ Ext w W))
          (fun _ _ _ => False)
          (fun k => ((Stab.ob _ _ _).and (Stab.ob _ _ _)).and (((Stab.ob _ _ _).and ((Stab.ob _ _ _).and (Stab.ex fun z => (Stab.ob _ _ _).and (Stab.pure _)))).and (((Stab.ob _ _ _).and (Stab.own _ _ _ _ _ _)).and (Stab.of_ext hwz3))))
          (fun _ _ => Stab.pure _)
          ⟨⟨hC3.out.ext hX3, hR3.out.ext hX3⟩, ⟨by rw [List.take_zero]; exact o0, o2, 0, o1, fun h => absurd h (by omega)⟩, ⟨hmu.ob.ext hX3, own_ext hmu.own hX3⟩, hXw3⟩
          (fun k x vs a' _ => a' = { tmps := #[.slice A l.length cap, undef, .pointer (some ⟨w.heap.size, 0, none⟩), .pointer (some ⟨C, 0, none⟩), .int .i64 (j : Int), .func (.func 44) #[] #[.pointer (some ⟨bx, 0, none⟩)], .pointer (some ⟨U, 0, none⟩), .pointer (some ⟨U + 1, 0, none⟩), .pointer (some ⟨U + 1 + 1, 0, none⟩), .int .i64 x.1, .int .i64 x.2, .slice A l.length cap, .int .i64 (l.length : Int), .bool false, undef, .pointer (some ⟨b, 0, none⟩), .pointer (some ⟨b, 0, none⟩), .bool false, .int .i64 (j : Int), .slice A l.length cap, .int .i64 (l.length : Int), .bool false, u22, u23, u24, u25, u26, u27, u28, u29, u30, u31, u32, u33, u34, u35, .pointer (some ⟨b, 0, none⟩), .func (.func 44) #[] #[.pointer (some ⟨bx, 0, none⟩)], .func (.func 44) #[] #[.pointer (some ⟨bx, 0, none⟩)], .bool false, .func (.func 44) #[] #[.pointer (some ⟨bx, 0, none⟩)], .int .i64 x.1, .int .i64 x.2, undef, undef, undef, undef, undef, undef, undef, undef, undef, undef, undef, undef, undef, undef, undef, undef, undef, undef, undef, undef, undef, undef, undef, undef, undef, undef, undef, undef], defers := [] })
          (fun k x vs a' => Stab.pure _) ?assign ?body ?done ?stop
        case assign =>
          rintro lp k x vs W K _ rfl hK
          gi_wp2
          exact hK _ _ (Ext.refl _) rfl
        case body =>
          rintro lp k x vs a' W hx ⟨⟨rC, rR⟩, ⟨rU, rG, z, rZ, hzl⟩, ⟨rb, rown⟩, hXW⟩ rfl rfl
          obtain ⟨xk, xn⟩ := x
          have hof := ofT_at hgood hx
          have hpos := hgood.pos _ (List.mem_of_getElem? hx)
          simp only at hof hpos
          have hkl : k < L.length := (List.getElem?_eq_some_iff.1 hx).1
          have hst := sum_take hx
          simp only at hst
          have hsb := sum_pre_le L k hgood.pos
          have hsc := hgood.sum
          have hcl := hgood.le
          have hxn := (hgood.cop _ (List.mem_of_getElem? hx)).2
          simp only at hxn
          have hnz : Hid (∀ y ∈ L.drop (k + 1), xk < y.1) := fun y hy => by
            obtain ⟨i, hi⟩ := List.mem_iff_getElem?.1 hy
            rw [List.getElem?_drop] at hi
            exact rise_get hgood.rise hx hi (by omega)
          have hmuW : Mu W WR.heap.size b vm L c := ⟨rb, rown, hmu.le⟩
          have hoc := hide (fun w' (hX : Ext W w') => mof_c xk L hgood.rise hgood.len _ b vm c w' (hmuW.ext hX))
          rw [hof] at hoc
          obtain ⟨s0, hs0⟩ : ∃ s, sumT (L.take k) = s := ⟨_, rfl⟩
          have hs1 : sumT (L.take (k + 1)) = s0 + xn := by rw [hst, hs0]
          rw [hs0] at rU hsb
          have hzk : 0 < k → z < xk := fun h => hzl h (xk, xn) (List.mem_of_getElem? (i := 0) (by rw [List.getElem?_drop, Nat.add_zero]; exact hx))
          have s00 := rU.cell 0 rfl
          have s01 := rZ.cell 0 rfl
          have s02 := rG.cell 0 rfl
          have s03 := rC.cell 0 rfl
          have e0 := rU.free 0
          have e1 := rZ.free 0
          have e2 := rG.free 0
          haveI : In U W := ⟨rU.lt⟩
          haveI : In (U + 1) W := ⟨rZ.lt⟩
          haveI : In (U + 1 + 1) W := ⟨rG.lt⟩
          haveI : In C W := ⟨rC.lt⟩
          have hmem : Hid (∀ y ∈ [U, U + 1, U + 1 + 1], ∃ T vs, Ob W y T vs) := by intro y hy; simp at hy; rcases hy with rfl | rfl | rfl; exact ⟨_, _, rU⟩; exact ⟨_, _, rZ⟩; exact ⟨_, _, rG⟩
          have hzW := hXW.size
          have hUw := rG.lt
          have hcore : Hid (∀ W', Fr [U, U + 1, U + 1 + 1] W W' → Ob W' U 3 [.int .i64 (s0 + xn)] → Ob W' (U + 1) 3 [.int .i64 xk] → Ob W' (U + 1 + 1) 4 [.bool true] →
              KeepsFrom W3.heap.size W W' ∧ Below w2.heap.size W W' ∧ ((Ob W' C 24 [.pointer (some ⟨b, 0, none⟩)] ∧ Ob W' w.heap.size 4 [.bool false]) ∧ (Ob W' U 3 [.int .i64 (sumT (L.take (k + 1)))] ∧ Ob W' (U + 1 + 1) 4 [.bool (decide (0 < k + 1))] ∧ ∃ z, Ob W' (U + 1) 3 [.int .i64 z] ∧ (0 < k + 1 → ∀ y ∈ L.drop (k + 1), z < y.1)) ∧ ((Ob W' b 65 [cmpF, vm, .int .i64 c] ∧ W'.ownsRow WR.heap.size 69 2 vm L.length (tgs L)) ∧ Ext w W'))) := by
            intro W' hF p0 p1 p2
            refine ⟨keeps_fr hF hmem.out, below_fr hF (by omega) (by simp; omega), ⟨rC.fr hF (by simp; omega), rR.fr hF (by simp; omega)⟩, ⟨by rw [hs1]; exact p0, by rw [show decide (0 < k + 1) = true from decide_eq_true (by omega)]; exact p2, xk, p1, fun _ => hnz.out⟩, ⟨rb.fr hF (by simp; omega), mown_fr rown hF (fun r hr => by have := hbb r hr; simp; omega)⟩, ext_fr hXW hF (by simp; omega)⟩
          clear hnz hs1 hst hzl hx hof hmem
          by_cases hk : k = 0
          · have hd : decide (0 < k) = false := decide_eq_false (by omega)
            rw [hd] at s02
            have rUh := hide rU; have rZh := hide rZ; have rGh := hide rG
            clear hzk rU rZ rG hd
            gi_wp2_with (gi_at_call 17; (with_reducible refine seq_gi (hoc.out _ (Ext.refl _)) ?_); intro g)
            exact hcore.out _ (((((Fr.of_ext g.grown).setCell _ _ (.inl (by simp)))).setCell _ _ (.inl (by simp))).setCell _ _ (.inl (by simp))) ((((rUh.out.ext g.grown).set 0 _).far _ _ (by first | (simp; done) | (simp; omega))).far _ _ (by first | (simp; done) | (simp; omega))) ((((rZh.out.ext g.grown).far _ _ (by first | (simp; done) | (simp; omega))).set 0 _).far _ _ (by first | (simp; done) | (simp; omega))) ((((rGh.out.ext g.grown).far _ _ (by first | (simp; done) | (simp; omega))).far _ _ (by first | (simp; done) | (simp; omega))).set 0 _)
          · have hd : decide (0 < k) = true := decide_eq_true (by omega)
            rw [hd] at s02
            have hzx : ¬ xk ≤ z := by have := hzk (by omega); omega
            have rUh := hide rU; have rZh := hide rZ; have rGh := hide rG
            clear hzk rU rZ rG hd
            gi_wp2_with (gi_at_call 17; (with_reducible refine seq_gi (hoc.out _ (Ext.refl _)) ?_); intro g)
            exact hcore.out _ (((((Fr.of_ext g.grown).setCell _ _ (.inl (by simp)))).setCell _ _ (.inl (by simp))).setCell _ _ (.inl (by simp))) ((((rUh.out.ext g.grown).set 0 _).far _ _ (by first | (simp; done) | (simp; omega))).far _ _ (by first | (simp; done) | (simp; omega))) ((((rZh.out.ext g.grown).far _ _ (by first | (simp; done) | (simp; omega))).set 0 _).far _ _ (by first | (simp; done) | (simp; omega))) ((((rGh.out.ext g.grown).far _ _ (by first | (simp; done) | (simp; omega))).far _ _ (by first | (simp; done) | (simp; omega))).set 0 _)
        case done =>
          rintro D W hD ⟨⟨rC, rR⟩, ⟨rU, rG, z, rZ, hzl⟩, ⟨rb, rown⟩, hXW⟩ hK
          rw [List.take_of_length_le (Nat.le_refl _), ← hgood.sum] at rU
          have hmuW : Mu W WR.heap.size b vm L c := ⟨rb, rown, hmu.le⟩
          have hct := hide (fun w' (hX : Ext W w') => mcount_c L _ b vm c w' (hmuW.ext hX))
          have hli := hide (fun w' => multiLive_c w')
          have s00 := rU.cell 0 rfl
          have s03 := rC.cell 0 rfl
          have s04 := rR.cell 0 rfl
          have e4 := rR.free 0
          haveI : In U W := ⟨rU.lt⟩
          haveI : In C W := ⟨rC.lt⟩
          haveI : In w.heap.size W := ⟨rR.lt⟩
          have rRh := hide rR
          have hKh := hide hK
          have hXWh := hide hXW
          clear rU rZ rG rC rR hzl rb rown hmuW hK hXW
          go_wp2
          refine wp_region_gw_tail 7 (by kernel_rfl) (by kernel_rfl) ?_
          simp only [List.take_succ_cons, List.take_zero, List.drop_succ_cons, List.drop_zero]
          repeat (go_big_quiet_step (first | (go_at_call 8; with_reducible exact quiet_gw (hli.out _)) | (go_at_call 16; with_reducible exact quiet_gw (hct.out _ (GW.grown _)))))
          refine wpQuiet_nil ?_
          intro g
          have hR1 := (rRh.out.ext g.grown).set 0 (.bool true)
          have hK1 : g.val.heap[D]? = some (.deferred (some [])) := (g.grown.block _ (lt_of_block hKh.out)).trans hKh.out
          have hK2 := (KeepsOthers.setCell g.val ⟨w.heap.size, 0, none⟩ (.bool true)).same D _ hK1 rfl
          have u2 := (ob_put (o' := .deferred none) hK2 rfl hR1).cell 0 rfl
          go_wp2_with fail
          refine ret_mark hK2 (v := .bool true) ?_ ⟨rfl, put_ext ((hXWh.out.trans g.grown).setCell (p := ⟨w.heap.size, 0, none⟩) (by simp) _) (by omega) _⟩
          simp [results, Try.f4, go_sem, u2]
        case stop => exact fun D cd k W hD hk h hK => h.elim
  · have hl60 : (60 : Int) < l.length := by omega
    have q0 := hR0.out.cell 0 rfl
    have f0 := hR0.out.free 0
    haveI : In w.heap.size WR := ⟨hR0.out.lt⟩
    have hli := hide (fun w' => multiLive_c w')
    go_wp2_with fail
    rw [← hWR]
    clear hWR
    with_reducible refine seq_gw (hli.out _) ?_
    intro g
    have hR1 := (hR0.out.ext g.grown).set 0 (.bool true)
    have u0 := hR1.cell 0 rfl
    go_wp2_with fail
    refine mret_plain (v := .bool true) (by simp [results, Try.f4, go_sem, u0]) ⟨rfl, (hXR.out.trans g.grown).setCell (p := ⟨w.heap.size, 0, none⟩) (by simp) _⟩

theorem own : ownKnob Try.prog.godebug = none := by kernel_rfl
theorem laidOut : laidOutB Try.prog = true := by kernel_rfl
set_option maxRecDepth 100000 in
theorem lifted (os : Os) (started : os.Started) (H : Type) (enc : TypeId × Value → H) :
    ReturnsInHanded {} Try.checked os 4 .any (Rows.multiAllSpec.pre6 enc Try.prog Try.f4 Rows.multiAllRow.domain false) (Rows.multiAllSpec.post enc Try.prog Try.f4 false true false false) := by
  refine returnsInHanded_of_change_sized (C := Try.checked) own started (by kernel_rfl) Try.func4
    (ChangeSpec.witness6 (enc := enc) (C := Try.checked) false ⟨#[], #[.slice none 0 0], []⟩ 8 (by kernel_rfl) (by kernel_rfl) (by kernel_rfl) (by kernel_rfl)) ?_
  intro W base args ds gs before hval0 hW hcnd hsz0 _
  have hsz : (DataW.weightsEach Try.prog (Try.f4.params.toList ++ Rows.multiAllSpec.plain.varTypes Try.prog) (ds ++ gs)).all (· ≤ reachBytes) = true := hsz0
  clear hsz0
  have hval : ∀ (j : Nat) t v, Try.f4.params[j]? = some t → args[j]? = some v → Value.okWide Try.prog W .any base t v := hval0
  have hW' := hW
  obtain ⟨p, q, hA0, hV, rfl, hfz, hnd⟩ := hW
  have hA : DataW.TrodAll enc Try.prog W 0 (fun _ => true) true Try.f4.params.toList args.toList ds p := hA0
  rw [Try.params4] at hA hval hsz
  obtain ⟨v0, vs0, d0, ds0, p0, q0, hargs, rfl, rfl, h0, r0⟩ := trodAll_cons hA
  obtain ⟨rfl, rfl, rfl⟩ := trodAll_nil r0
  obtain rfl : args = #[v0] := by cases args; simp_all
  obtain ⟨rfl, rfl⟩ := trodVars_none hV
  have k0 := h0
  have lt0 : ∀ x ∈ p0, x.block < W.heap.size := by obtain ⟨m, hm⟩ := k0; exact DataW.trod_lt m _ _ _ hm
  obtain ⟨A0, n0, c0, rfl⟩ := okWide_slice Try.underlying22 (hval 0 22 v0 rfl rfl)
  have ⟨m0, hm0⟩ := h0
  obtain ⟨l, ll, hl, ql⟩ := open_pairs Try.underlying22 Try.underlying32 (by kernel_rfl) rfl rfl (by kernel_rfl) (by kernel_rfl) Try.underlying3 Try.underlying3 hm0
  have zl : l.length ≤ 140737488351232 := by rw [ll]; exact sized_len hsz (j := 0) (t := 22) (e := 32) rfl rfl Try.underlying22 (of_decide_eq_true (by kernel_rfl))
  clear hA0 hval0
  refine (walk l _ W hl).mono fun e W' ⟨he, bel⟩ => ?_
  subst he
  exact ⟨_, rfl, _, _, _, [], _, [], hW', trodAll_mk1 (shut_bool Try.underlying4 _), (trodAll_cons_mk (Below.trod laidOut (by kernel_rfl) (of_decide_eq_true (by kernel_rfl)) k0 bel lt0) trodAll_mk0), rfl, bel.frame _, fun h => by cases h⟩

theorem over : Rows.multiAllRow.holds Try.pinned (OpenSpec.ofChange Rows.multiAllSpec) :=
  OpenClaim.holds_of_wide 4 Try.f4 rfl rfl rfl rfl rfl rfl rfl ⟨rfl, rfl, rfl, rfl, rfl⟩ rfl rfl rfl rfl rfl (by kernel_rfl) Try.func4 (by kernel_rfl)
    (of_decide_eq_true (by kernel_rfl)) (by unfold Func.isWrapper; first | (rw [if_pos (by decide +kernel)]; kernel_rfl) | (rw [if_neg (by decide +kernel)]; exact ⟨rfl, rfl⟩))
    (fun os started H enc _ => lifted os started H enc)

theorem multiAll_holds : Rows.MultiAllSaid := over
end Go.Proofs.Ytnneicdphlidhaa.multiAll
