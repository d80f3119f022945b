/-
  Layer 24: whatever is put in and taken out, the errors, how many copies there are, and which one has which number, is as the document says.
-/
import Derived.Test.YtnneicdphlidhaaMulU
import Derived.Test.YtnneicdphlidhaaArg
import Derived.Deep.LoopGhost
import Derived.WalkKit
import Derived.ProofKit
import Derived.OpenShut
import Derived.ShutString
import Derived.ChangeOld
import Derived.Below
import Derived.Lib.SmallJoins
import Derived.SizedLaws
import Derived.Deep.CondSized
import Derived.JoinedCond
import Derived.Test.YtnneicdphlidhaaRows
import Derived.Test.YtnneicdphlidhaaChecked
set_option linter.unusedVariables false
set_option linter.unusedSimpArgs false
namespace Go.Proofs.Ytnneicdphlidhaa.multiPuts
open Go.ChangeShapes Go.WideShapes Go.ChangeAt Go.RowKit Go.Joins
open Go.ChangeMaps (open_string shut_string)
attribute [local go_sem] GW.cell GW.frozen In.eq_true In.le_true In.ne In.ne' In.ne_add In.ne_add' In.lt_add Upto.le_true Upto.le_add Upto.lt_add
theorem ml_ext {W0 w : World} {b : Nat} {l : List Tg} {c : Int} (h : Ml W0 w b l c) : Ext W0 w := by obtain ⟨_, _, _, hX⟩ := h; exact hX
theorem ml_good {W0 w : World} {b : Nat} {l : List Tg} {c : Int} (h : Ml W0 w b l c) : Good l c := by obtain ⟨_, _, hg, _⟩ := h; exact hg
theorem md_keep {w w' : World} {B r : Nat} {xs : List Int} (hO : ∀ C T vs, Ob w C T vs → T ≠ 65 → T ≠ 69 → Ob w' C T vs) (h : Md w B r xs) : Md w' B r xs := by
  obtain ⟨v, h1, h2, h3⟩ := h
  refine ⟨v, hO _ _ _ h1 (by decide) (by decide), ⟨h2.1, h2.2.imp id fun ⟨g, cap, cur, e, hb, hg, rest⟩ => ⟨g, cap, cur, e, hb, ?_, rest⟩⟩, h3⟩
  have h4 : Ob w g 3 cur.toList := by unfold Ob; rw [hg, Array.toArray_toList]
  have h5 := hO _ _ _ h4 (by decide) (by decide)
  unfold Ob at h5
  rw [h5, Array.toArray_toList]
theorem ml_fr {W0 w w' : World} {b r : Nat} {l : List Tg} {c : Int} {xs : List Int} {B : Nat} (h : Ml W0 w b l c) (k : Fr [r] w w') (hr : Md w B r xs) (hB : W0.heap.size ≤ r) : Ml W0 w' b l c := by
  obtain ⟨v, hm, hg, hX⟩ := h
  obtain ⟨u, h1, -, -⟩ := hr
  refine ⟨v, ⟨hm.ob.fr k (by simp; exact Ob.ne hm.ob h1 (by decide)), mown_fr hm.own k (fun x hx => by simp; intro e; subst e; exact Ob.not_own h1 hm.own (by decide) hx), hm.le⟩, hg, ext_fr hX k (by simp; exact hB)⟩
theorem chk_put {k n : Int} {l : List Tg} {c : Int} (h : Good l c) : chkZ k n (dup l) = putE k n l c := by
  unfold chkZ putE
  rw [cnt_dup h, dup_len l h.pos, ← h.sum]
set_option maxHeartbeats 8000000 in
set_option maxRecDepth 100000 in
theorem walk (l : List (Int × Int)) (k i : Int) (v : Value) (w : World) (h : Sl w [] 2 v l.length (ps l)) : Calls Try.prog 3 #[v, .int .i64 k, .int .i64 i] w fun e w' => e = .returned (.bool true) ∧ Ext w w' := by
  by_cases h60 : l.length ≤ 60
  · obtain ⟨A, cap, rfl, hlc, hlm, hat⟩ := thw_form (show Thw w [] v l from h)
    unfold maxLen at hlm
    have hatH := hide hat
    have hl60 : ¬ (60 : Int) < l.length := by omega
    clear hat
    have hnew := hide (mnewM w w (Ext.refl _))
    clear h
    go_enter Try.func3, Try.ntmps3
    go_wp2_with (go_at_call 9; refine hnew.out.mono ?_; rintro ee w1 ⟨b, rfl, hM1⟩; replace hM1 := hide hM1)
    obtain ⟨WA, hWA⟩ : ∃ WA, WA = w1.alloc (.cells #[.slice none 0 0] 30) := ⟨_, rfl⟩
    obtain ⟨r, hr⟩ : ∃ r, r = w1.heap.size := ⟨_, rfl⟩
    have hXA : Ext w1 WA := by rw [hWA]; exact (Ext.refl w1).alloc _
    have hrw : Hid (w.heap.size ≤ r) := by show _ ≤ r; rw [hr]; exact (ml_ext hM1.out).size
    have hD0 : Hid (Md WA w.heap.size r (dup [])) := ⟨_, by rw [hWA, hr]; exact Ob.new w1 _ [.slice none 0 0], World.ownsRow_nil _ _ _ _, hrw.out⟩
    have hM0 := hide (hM1.out.later hXA)
    rw [← hWA, ← hr]
    clear hWA hXA hM1 hr hnew
    go_loopg [9] l.length (fun gh iv wr => ∃ (j : Nat) (L : List Tg) (c : Int), iv = .int .i64 j ∧ j + gh = l.length ∧ Hid (c ≤ 20 * (j : Int)) ∧ Hid (Ml w wr b L c) ∧ Hid (Md wr w.heap.size r (dup L)))
    case atStart => exact ⟨0, [], 0, rfl, by omega, by show (0 : Int) ≤ _; omega, hM0, hD0⟩
    case round =>
      clear hM0 hD0
      obtain ⟨j, L, c, rfl, hj, hc20, hM, hD⟩ := hrel
      have hXr : Ext w wr := ml_ext hM.out
      have hgood := ml_good hM.out
      by_cases hlt : j < l.length
      · obtain ⟨x, hx⟩ : ∃ x, l[j]? = some x := ⟨_, List.getElem?_eq_getElem hlt⟩
        obtain ⟨b', o', rfl, -, hb', c0, c1⟩ := hatH.out j x hx
        have k0 := mcell_later hXr c0
        have k1 := mcell_later hXr c1
        haveI : In b' wr := ⟨block_lt_of_cell k0⟩
        have hjI : (j : Int) < l.length := by omega
        obtain ⟨xk, xn⟩ := x
        simp only at k0 k1
        have hcc := hc20.out
        have hnn := hgood.nonneg
        have hdl : ((dup L).length : Int) = c := by rw [dup_len L hgood.pos, ← hgood.sum]
        have hck := hide (fun w' (hX : Ext wr w') => refCheck24_c xk xn (dup L) (by omega) _ r w' (hD.out.ext hX))
        rw [chk_put hgood] at hck
        have hput := hide (fun w' (hX : Ext wr w') => mputF xk xn w w' b L c (hM.out.later hX))
        have hli := hide (fun w' => multiLive_c w')
        by_cases hA : xn > 20 ∧ putE xk xn L c ≠ 2
        · obtain ⟨hA1, hA2⟩ := hA
          have hd1 : (20 : Int) < xn := hA1
          have hd2 : (putE xk xn L c != 2) = true := by simpa using hA2
          generalize putE xk xn L c = E at *
          clear hput hA1 hA2 c0 c1 hx hb' hgood hdl
          go_wp2_with (first
            | (go_at_call 11; (with_reducible refine seq_gw (hck.out _ (Ext.refl _)) ?_); intro g1)
            | (go_at_call 8; (with_reducible refine seq_gw (hli.out _) ?_); intro g2))
          go_returns
          exact ⟨rfl, hXr.trans (g1.grown.trans g2.grown)⟩
        · by_cases he : putE xk xn L c = 0
          · obtain ⟨⟨hn1, hn2⟩, hof0, hcn⟩ := putE_ok.1 he
            have hn20 : xn ≤ 20 := by rcases Int.lt_or_le 20 xn with h1 | h1; exact absurd ⟨h1, by rw [he]; decide⟩ hA; exact h1
            have hofle := (ofT_good (k := xk) hgood)
            have hcnt := cnt_dup (k := xk) hgood
            have hole : ofT xk L ≤ c := by have := (cntZ_le xk (dup L)).2; rw [hcnt, hdl] at this; exact this
            have hrp := hide (fun w' (h : Md w' w.heap.size r (dup L)) => refPut24_c xk xn (dup L) (by omega) (by rw [hcnt]; omega) ⟨hn1, hn2⟩ _ r w' h)
            rw [hcnt, pd_dup hgood he] at hrp
            have hpc : putC xk xn L c = c + xn := by unfold putC; rw [if_pos he]
            rw [hpc, he] at hput
            rw [he] at hck
            have hcs : Hid (c + xn ≤ 20 * ((j + 1 : Nat) : Int)) := by show _ ≤ _; push_cast; omega
            have hnd : ¬ (20 : Int) < xn := by omega
            generalize putL xk xn L c = L2 at *
            generalize c + xn = cc2 at *
            clear hA he hcc hnn hdl hof0 hcn hofle hcnt hole hgood hpc
            go_wp2_with (first
              | (go_at_call 11; (with_reducible refine seq_gw (hck.out _ (Ext.refl _)) ?_); intro g1)
              | (go_at_call 12; refine (hput.out _ g1.grown).mono ?_; rintro ee w2 ⟨rfl, hM2, hO2⟩; have hD2 := hide (md_keep hO2 (hD.out.ext g1.grown)); have k2 := mcell_later (ml_ext hM2) c0; have k3 := mcell_later (ml_ext hM2) c1; haveI : In b' w2 := ⟨block_lt_of_cell k2⟩; replace hM2 := hide hM2; clear hO2 hM hD k0 k1)
              | (go_at_call 13; refine (hrp.out _ hD2.out).mono ?_; rintro ee w3 ⟨rfl, hD3, hF3⟩; have hM3 := hide (ml_fr hM2.out hF3 hD2.out hrw.out); replace hD3 := hide hD3; clear hF3 hM2 hD2 c0 c1; have hgd := ml_good hM3.out; have hnn := hgd.nonneg; have hdl : ((dup L2).length : Int) = cc2 := (by rw [dup_len L2 hgd.pos, ← hgd.sum]); have hcz := hcs.out; have hsz : (dup L2).length ≤ 8192 := (by push_cast at hcz; omega); have n1 := hide (fun w' (hX : Ext w3 w') => mnthM i w w' b L2 cc2 (hM3.out.later hX)); have n2 := hide (fun w' (hX : Ext w3 w') => refNth24_c i (dup L2) hsz _ r w' (hD3.out.ext hX)); rw [← nth_dup hgd] at n2; have n3 := hide (fun w' (hX : Ext w3 w') => mcountM w w' b L2 cc2 (hM3.out.later hX)); have n4 := hide (fun w' (hX : Ext w3 w') => mofM k w w' b L2 cc2 (hM3.out.later hX)); have n5 := hide (fun w' (hX : Ext w3 w') => refOf24_c k (dup L2) hsz _ r w' (hD3.out.ext hX)); rw [cnt_dup hgd] at n5; have n6 := hide (fun w' (hX : Ext w3 w') => mleastM w w' b L2 cc2 (hM3.out.later hX)); have n7 := hide (fun w' (hX : Ext w3 w') => refNth24_c 0 (dup L2) hsz _ r w' (hD3.out.ext hX)); rw [← nth_dup hgd] at n7; have n8 := hide (fun w' (hX : Ext w3 w') => mmostM w w' b L2 cc2 (hM3.out.later hX)); have n9 := hide (fun w' (hX : Ext w3 w') => refNth24_c (cc2 - 1) (dup L2) hsz _ r w' (hD3.out.ext hX)); rw [← last_dup hgd] at n9; obtain ⟨v3, q3, q4, -⟩ := hD3.out; obtain ⟨A3, cap3, q5⟩ := own_form q4; subst q5; have d0 := q3.cell 0 rfl; haveI : In r w3 := ⟨q3.lt⟩; generalize (nthR i L2 cc2).1 = nx at *; generalize (nthR i L2 cc2).2 = ny at *; generalize (nthR 0 L2 cc2).1 = lx at *; generalize (nthR 0 L2 cc2).2 = ly at *; generalize (lastT L2 cc2).1 = mx at *; generalize (lastT L2 cc2).2 = my at *; generalize ofT k L2 = ok at *; clear q3 q4 hgd hcz))
            go_wp2_with (first
              | (go_at_call 14; (with_reducible refine seq_gw (n1.out _ (Ext.refl _)) ?_); intro g4)
              | (go_at_call 15; (with_reducible refine seq_gw (n2.out _ g4.grown) ?_); intro g5))
            have e5 := g4.grown.trans g5.grown
            have m3 := hide (fun w' (hX : Ext g5.val w') => n3.out w' (e5.trans hX))
            have m4 := hide (fun w' (hX : Ext g5.val w') => n4.out w' (e5.trans hX))
            have m5 := hide (fun w' (hX : Ext g5.val w') => n5.out w' (e5.trans hX))
            replace e5 := hide e5
            clear n1 n2 n3 n4 n5
            refine wp_region_gw (by kernel_rfl) (by kernel_rfl) ?_
            repeat (go_big_quiet_step (first | (go_at_call 16; with_reducible exact quiet_gw (m3.out _ (GW.grown _))) | (go_at_call 17; with_reducible exact quiet_gw (m4.out _ (GW.grown _))) | (go_at_call 18; with_reducible exact quiet_gw (m5.out _ (GW.grown _)))))
            refine wpQuiet_nil ?_
            intro g6
            have e6 := hide (e5.out.trans g6.grown)
            clear m3 m4 m5
            go_wp2_with (first
              | (go_at_call 19; (with_reducible refine seq_gw (n6.out _ e6.out) ?_); intro g7; have e7 := hide (e6.out.trans g7.grown))
              | (go_at_call 20; (with_reducible refine seq_gw (n8.out _ e8.out) ?_); intro g9; have e9 := hide (e8.out.trans g9.grown))
              | (go_at_call 15; first
                | ((with_reducible refine seq_gw (n9.out _ e9.out) ?_); intro g10; have e10 := hide (e9.out.trans g10.grown))
                | ((with_reducible refine seq_gw (n7.out _ e7.out) ?_); intro g8; have e8 := hide (e7.out.trans g8.grown))))
            go_roundg (l.length - (j + 1))
            case measure => omega
            case rel => exact ⟨j + 1, L2, cc2, by go_num, by omega, hcs, hM3.out.later e10.out, hD3.out.ext e10.out⟩
          · have hpL : putL xk xn L c = L := by unfold putL; rw [if_neg he]
            have hpC : putC xk xn L c = c := by unfold putC; rw [if_neg he]
            rw [hpL, hpC] at hput
            have hcs : Hid (c ≤ 20 * ((j + 1 : Nat) : Int)) := by show _ ≤ _; push_cast; omega
            have heb : (putE xk xn L c == 0) = false := by rw [beq_eq_false_iff_ne]; exact he
            have h20 : Hid ((20 : Int) < xn → putE xk xn L c = 2) := by
              intro h1
              by_cases h2 : putE xk xn L c = 2
              · exact h2
              · exact absurd ⟨h1, h2⟩ hA
            generalize putE xk xn L c = E at *
            obtain ⟨L2, hL2⟩ : ∃ z, z = L := ⟨_, rfl⟩
            obtain ⟨cc2, hcc2⟩ : ∃ z, z = c := ⟨_, rfl⟩
            clear hA he hcc hnn hdl hgood hpL hpC
            by_cases hbig : (20 : Int) < xn
            · have hE2 := h20.out hbig
              subst hE2
              clear h20
              go_wp2_with (first
                | (go_at_call 11; (with_reducible refine seq_gw (hck.out _ (Ext.refl _)) ?_); intro g1)
                | (go_at_call 12; refine (hput.out _ g1.grown).mono ?_; rintro ee w3 ⟨rfl, hM3, hO2⟩; have hD3 := hide (md_keep hO2 (hD.out.ext g1.grown)); replace hM3 := hide hM3; rw [← hL2] at hM3 hD3; rw [← hcc2] at hM3; rw [← hcc2] at hcs; clear hO2 hM hD k0 k1 hL2 hcc2 c0 c1; have hgd := ml_good hM3.out; have hnn := hgd.nonneg; have hdl : ((dup L2).length : Int) = cc2 := (by rw [dup_len L2 hgd.pos, ← hgd.sum]); have hcz := hcs.out; have hsz : (dup L2).length ≤ 8192 := (by push_cast at hcz; omega); have n1 := hide (fun w' (hX : Ext w3 w') => mnthM i w w' b L2 cc2 (hM3.out.later hX)); have n2 := hide (fun w' (hX : Ext w3 w') => refNth24_c i (dup L2) hsz _ r w' (hD3.out.ext hX)); rw [← nth_dup hgd] at n2; have n3 := hide (fun w' (hX : Ext w3 w') => mcountM w w' b L2 cc2 (hM3.out.later hX)); have n4 := hide (fun w' (hX : Ext w3 w') => mofM k w w' b L2 cc2 (hM3.out.later hX)); have n5 := hide (fun w' (hX : Ext w3 w') => refOf24_c k (dup L2) hsz _ r w' (hD3.out.ext hX)); rw [cnt_dup hgd] at n5; have n6 := hide (fun w' (hX : Ext w3 w') => mleastM w w' b L2 cc2 (hM3.out.later hX)); have n7 := hide (fun w' (hX : Ext w3 w') => refNth24_c 0 (dup L2) hsz _ r w' (hD3.out.ext hX)); rw [← nth_dup hgd] at n7; have n8 := hide (fun w' (hX : Ext w3 w') => mmostM w w' b L2 cc2 (hM3.out.later hX)); have n9 := hide (fun w' (hX : Ext w3 w') => refNth24_c (cc2 - 1) (dup L2) hsz _ r w' (hD3.out.ext hX)); rw [← last_dup hgd] at n9; obtain ⟨v3, q3, q4, -⟩ := hD3.out; obtain ⟨A3, cap3, q5⟩ := own_form q4; subst q5; have d0 := q3.cell 0 rfl; haveI : In r w3 := ⟨q3.lt⟩; generalize (nthR i L2 cc2).1 = nx at *; generalize (nthR i L2 cc2).2 = ny at *; generalize (nthR 0 L2 cc2).1 = lx at *; generalize (nthR 0 L2 cc2).2 = ly at *; generalize (lastT L2 cc2).1 = mx at *; generalize (lastT L2 cc2).2 = my at *; generalize ofT k L2 = ok at *; clear q3 q4 hgd hcz))
              go_wp2_with (first
                | (go_at_call 14; (with_reducible refine seq_gw (n1.out _ (Ext.refl _)) ?_); intro g4)
                | (go_at_call 15; (with_reducible refine seq_gw (n2.out _ g4.grown) ?_); intro g5))
              have e5 := g4.grown.trans g5.grown
              have m3 := hide (fun w' (hX : Ext g5.val w') => n3.out w' (e5.trans hX))
              have m4 := hide (fun w' (hX : Ext g5.val w') => n4.out w' (e5.trans hX))
              have m5 := hide (fun w' (hX : Ext g5.val w') => n5.out w' (e5.trans hX))
              replace e5 := hide e5
              clear n1 n2 n3 n4 n5
              refine wp_region_gw (by kernel_rfl) (by kernel_rfl) ?_
              repeat (go_big_quiet_step (first | (go_at_call 16; with_reducible exact quiet_gw (m3.out _ (GW.grown _))) | (go_at_call 17; with_reducible exact quiet_gw (m4.out _ (GW.grown _))) | (go_at_call 18; with_reducible exact quiet_gw (m5.out _ (GW.grown _)))))
              refine wpQuiet_nil ?_
              intro g6
              have e6 := hide (e5.out.trans g6.grown)
              clear m3 m4 m5
              go_wp2_with (first
                | (go_at_call 19; (with_reducible refine seq_gw (n6.out _ e6.out) ?_); intro g7; have e7 := hide (e6.out.trans g7.grown))
                | (go_at_call 20; (with_reducible refine seq_gw (n8.out _ e8.out) ?_); intro g9; have e9 := hide (e8.out.trans g9.grown))
                | (go_at_call 15; first
                  | ((with_reducible refine seq_gw (n9.out _ e9.out) ?_); intro g10; have e10 := hide (e9.out.trans g10.grown))
                  | ((with_reducible refine seq_gw (n7.out _ e7.out) ?_); intro g8; have e8 := hide (e7.out.trans g8.grown))))
              go_roundg (l.length - (j + 1))
              case measure => omega
              case rel => exact ⟨j + 1, L2, cc2, by go_num, by omega, hcs, hM3.out.later e10.out, hD3.out.ext e10.out⟩
            · clear h20
              go_wp2_with (first
                | (go_at_call 11; (with_reducible refine seq_gw (hck.out _ (Ext.refl _)) ?_); intro g1)
                | (go_at_call 12; refine (hput.out _ g1.grown).mono ?_; rintro ee w3 ⟨rfl, hM3, hO2⟩; have hD3 := hide (md_keep hO2 (hD.out.ext g1.grown)); replace hM3 := hide hM3; rw [← hL2] at hM3 hD3; rw [← hcc2] at hM3; rw [← hcc2] at hcs; clear hO2 hM hD k0 k1 hL2 hcc2 c0 c1; have hgd := ml_good hM3.out; have hnn := hgd.nonneg; have hdl : ((dup L2).length : Int) = cc2 := (by rw [dup_len L2 hgd.pos, ← hgd.sum]); have hcz := hcs.out; have hsz : (dup L2).length ≤ 8192 := (by push_cast at hcz; omega); have n1 := hide (fun w' (hX : Ext w3 w') => mnthM i w w' b L2 cc2 (hM3.out.later hX)); have n2 := hide (fun w' (hX : Ext w3 w') => refNth24_c i (dup L2) hsz _ r w' (hD3.out.ext hX)); rw [← nth_dup hgd] at n2; have n3 := hide (fun w' (hX : Ext w3 w') => mcountM w w' b L2 cc2 (hM3.out.later hX)); have n4 := hide (fun w' (hX : Ext w3 w') => mofM k w w' b L2 cc2 (hM3.out.later hX)); have n5 := hide (fun w' (hX : Ext w3 w') => refOf24_c k (dup L2) hsz _ r w' (hD3.out.ext hX)); rw [cnt_dup hgd] at n5; have n6 := hide (fun w' (hX : Ext w3 w') => mleastM w w' b L2 cc2 (hM3.out.later hX)); have n7 := hide (fun w' (hX : Ext w3 w') => refNth24_c 0 (dup L2) hsz _ r w' (hD3.out.ext hX)); rw [← nth_dup hgd] at n7; have n8 := hide (fun w' (hX : Ext w3 w') => mmostM w w' b L2 cc2 (hM3.out.later hX)); have n9 := hide (fun w' (hX : Ext w3 w') => refNth24_c (cc2 - 1) (dup L2) hsz _ r w' (hD3.out.ext hX)); rw [← last_dup hgd] at n9; obtain ⟨v3, q3, q4, -⟩ := hD3.out; obtain ⟨A3, cap3, q5⟩ := own_form q4; subst q5; have d0 := q3.cell 0 rfl; haveI : In r w3 := ⟨q3.lt⟩; generalize (nthR i L2 cc2).1 = nx at *; generalize (nthR i L2 cc2).2 = ny at *; generalize (nthR 0 L2 cc2).1 = lx at *; generalize (nthR 0 L2 cc2).2 = ly at *; generalize (lastT L2 cc2).1 = mx at *; generalize (lastT L2 cc2).2 = my at *; generalize ofT k L2 = ok at *; clear q3 q4 hgd hcz))
              go_wp2_with (first
                | (go_at_call 14; (with_reducible refine seq_gw (n1.out _ (Ext.refl _)) ?_); intro g4)
                | (go_at_call 15; (with_reducible refine seq_gw (n2.out _ g4.grown) ?_); intro g5))
              have e5 := g4.grown.trans g5.grown
              have m3 := hide (fun w' (hX : Ext g5.val w') => n3.out w' (e5.trans hX))
              have m4 := hide (fun w' (hX : Ext g5.val w') => n4.out w' (e5.trans hX))
              have m5 := hide (fun w' (hX : Ext g5.val w') => n5.out w' (e5.trans hX))
              replace e5 := hide e5
              clear n1 n2 n3 n4 n5
              refine wp_region_gw (by kernel_rfl) (by kernel_rfl) ?_
              repeat (go_big_quiet_step (first | (go_at_call 16; with_reducible exact quiet_gw (m3.out _ (GW.grown _))) | (go_at_call 17; with_reducible exact quiet_gw (m4.out _ (GW.grown _))) | (go_at_call 18; with_reducible exact quiet_gw (m5.out _ (GW.grown _)))))
              refine wpQuiet_nil ?_
              intro g6
              have e6 := hide (e5.out.trans g6.grown)
              clear m3 m4 m5
              go_wp2_with (first
                | (go_at_call 19; (with_reducible refine seq_gw (n6.out _ e6.out) ?_); intro g7; have e7 := hide (e6.out.trans g7.grown))
                | (go_at_call 20; (with_reducible refine seq_gw (n8.out _ e8.out) ?_); intro g9; have e9 := hide (e8.out.trans g9.grown))
                | (go_at_call 15; first
                  | ((with_reducible refine seq_gw (n9.out _ e9.out) ?_); intro g10; have e10 := hide (e9.out.trans g10.grown))
                  | ((with_reducible refine seq_gw (n7.out _ e7.out) ?_); intro g8; have e8 := hide (e7.out.trans g8.grown))))
              go_roundg (l.length - (j + 1))
              case measure => omega
              case rel => exact ⟨j + 1, L2, cc2, by go_num, by omega, hcs, hM3.out.later e10.out, hD3.out.ext e10.out⟩
      · have hge : (l.length : Int) ≤ j := by omega
        have hli := hide (fun w' => multiLive_c w')
        clear hatH
        go_wp2_with (go_at_call 8; (with_reducible refine seq_gw (hli.out _) ?_); intro g2)
        go_returns
        exact ⟨rfl, hXr.trans g2.grown⟩
  · obtain ⟨A, cap, rfl, hlc, hlm, hat⟩ := thw_form (show Thw w [] v l from h)
    have hl60 : (60 : Int) < l.length := by omega
    clear h hat
    go_enter Try.func3, Try.ntmps3
    go_wp2_with (go_at_call 8; (with_reducible refine seq_gw (multiLive_c _) ?_); intro g9)
    go_returns
    exact ⟨rfl, g9.grown⟩

theorem own : ownKnob Try.prog.godebug = none := by kernel_rfl
theorem laidOut : laidOutB Try.prog = true := by kernel_rfl
set_option maxRecDepth 100000 in
theorem lifted (os : Os) (started : os.Started) (H : Type) (enc : TypeId × Value → H) :
    ReturnsInHanded {} Try.checked os 3 .any (Rows.multiPutsSpec.pre6 enc Try.prog Try.f3 Rows.multiPutsRow.domain false) (Rows.multiPutsSpec.post enc Try.prog Try.f3 false true false false) := by
  refine returnsInHanded_of_change_sized (C := Try.checked) own started (by kernel_rfl) Try.func3
    (ChangeSpec.witness6 (enc := enc) (C := Try.checked) false ⟨#[], #[.slice none 0 0, .int .i64 0, .int .i64 0], []⟩ 8 (by kernel_rfl) (by kernel_rfl) (by kernel_rfl) (by kernel_rfl)) ?_
  intro W base args ds gs before hval0 hW hcnd hsz0 _
  have hsz : (DataW.weightsEach Try.prog (Try.f3.params.toList ++ Rows.multiPutsSpec.plain.varTypes Try.prog) (ds ++ gs)).all (· ≤ reachBytes) = true := hsz0
  clear hsz0
  have hval : ∀ (j : Nat) t v, Try.f3.params[j]? = some t → args[j]? = some v → Value.okWide Try.prog W .any base t v := hval0
  have hW' := hW
  obtain ⟨p, q, hA0, hV, rfl, hfz, hnd⟩ := hW
  have hA : DataW.TrodAll enc Try.prog W 0 (fun _ => true) true Try.f3.params.toList args.toList ds p := hA0
  rw [Try.params3] at hA hval hsz
  obtain ⟨v0, vs0, d0, ds0, p0, q0, hargs, rfl, rfl, h0, r0⟩ := trodAll_cons hA
  obtain ⟨v1, vs1, d1, ds1, p1, q1, rfl, rfl, rfl, h1, r1⟩ := trodAll_cons r0
  obtain ⟨v2, vs2, d2, ds2, p2, q2, rfl, rfl, rfl, h2, r2⟩ := trodAll_cons r1
  obtain ⟨rfl, rfl, rfl⟩ := trodAll_nil r2
  obtain rfl : args = #[v0, v1, v2] := by cases args; simp_all
  obtain ⟨rfl, rfl⟩ := trodVars_none hV
  have k0 := h0
  have lt0 : ∀ x ∈ p0, x.block < W.heap.size := by obtain ⟨m, hm⟩ := k0; exact DataW.trod_lt m _ _ _ hm
  obtain ⟨A0, n0, c0, rfl⟩ := okWide_slice Try.underlying22 (hval 0 22 v0 rfl rfl)
  have ⟨m0, hm0⟩ := h0
  obtain ⟨l, ll, hl, ql⟩ := open_pairs Try.underlying22 Try.underlying32 (by kernel_rfl) rfl rfl (by kernel_rfl) (by kernel_rfl) Try.underlying3 Try.underlying3 hm0
  have zl : l.length ≤ 140737488351232 := by rw [ll]; exact sized_len hsz (j := 0) (t := 22) (e := 32) rfl rfl Try.underlying22 (of_decide_eq_true (by kernel_rfl))
  have k1 := h1
  have lt1 : ∀ x ∈ p1, x.block < W.heap.size := by obtain ⟨m, hm⟩ := k1; exact DataW.trod_lt m _ _ _ hm
  obtain ⟨k, rfl, _, _, wk⟩ := open_int Try.underlying3 (hval 1 3 v1 rfl rfl) h1
  have hk := wf_i64 wk
  have k2 := h2
  have lt2 : ∀ x ∈ p2, x.block < W.heap.size := by obtain ⟨m, hm⟩ := k2; exact DataW.trod_lt m _ _ _ hm
  obtain ⟨i, rfl, _, _, wi⟩ := open_int Try.underlying3 (hval 2 3 v2 rfl rfl) h2
  have hi := wf_i64 wi
  clear hA0 hval0
  refine (walk l k i _ W hl).mono fun e W' ⟨he, bel⟩ => ?_
  subst he
  exact ⟨_, rfl, _, _, _, [], _, [], hW', trodAll_mk1 (shut_bool Try.underlying4 _), (trodAll_cons_mk (Below.trod laidOut (by kernel_rfl) (of_decide_eq_true (by kernel_rfl)) k0 bel lt0) (trodAll_cons_mk (Below.trod laidOut (by kernel_rfl) (of_decide_eq_true (by kernel_rfl)) k1 bel lt1) (trodAll_cons_mk (Below.trod laidOut (by kernel_rfl) (of_decide_eq_true (by kernel_rfl)) k2 bel lt2) trodAll_mk0))), rfl, bel.frame _, fun h => by cases h⟩

theorem over : Rows.multiPutsRow.holds Try.pinned (OpenSpec.ofChange Rows.multiPutsSpec) :=
  OpenClaim.holds_of_wide 3 Try.f3 rfl rfl rfl rfl rfl rfl rfl ⟨rfl, rfl, rfl, rfl, rfl⟩ rfl rfl rfl rfl rfl (by kernel_rfl) Try.func3 (by kernel_rfl)
    (of_decide_eq_true (by kernel_rfl)) (by unfold Func.isWrapper; first | (rw [if_pos (by decide +kernel)]; kernel_rfl) | (rw [if_neg (by decide +kernel)]; exact ⟨rfl, rfl⟩))
    (fun os started H enc _ => lifted os started H enc)

theorem multiPuts_holds : Rows.MultiPutsSaid := over
end Go.Proofs.Ytnneicdphlidhaa.multiPuts
