/-
  A helper of ours: no claim of its own. Layer 11 (pack): the edges of the table of pieces, by the document.
-/
import Derived.Test.YtobmjcehgpmfgaaGreatEdgB
import Derived.Test.YtobmjcehgpmfgaaGreatBagJ
import Derived.Test.YtobmjcehgpmfgaaGreatBagE
import Derived.Test.YtobmjcehgpmfgaaGreatPakO
import Derived.Test.YtobmjcehgpmfgaaGreatEdgM
import Derived.Test.YtobmjcehgpmfgaaGreatEdgGs
import Derived.Test.YtobmjcehgpmfgaaGreatPakQ
import Derived.Test.YtobmjcehgpmfgaaGreatEdgPt
import Derived.Test.YtobmjcehgpmfgaaGreatEdgNd
set_option linter.unusedVariables false
set_option linter.unusedSimpArgs false
namespace Go.Proofs.YtobmjcehgpmfgaaGreat
open Go.RowKit
attribute [local go_sem] GW.cell GW.frozen In.eq_true In.le_true In.ne In.ne' In.ne_add In.ne_add' In.lt_add Upto.le_true Upto.le_add Upto.lt_add
set_option maxHeartbeats 8000000 in
set_option maxRecDepth 100000 in
theorem refEdgeSame_c {L M : List Ve} {v u : Value} {w : World} (hl : Ew w [] v L) (hm : Ew w [] u M) : Calls Tryz.prog 24 #[v, u] w fun e w' => e = .returned (.bool (decide (eds L = eds M))) ∧ Ext w w' := by
  obtain ⟨A, cap, rfl, hlc, hlm, hat⟩ := ew_form hl
  obtain ⟨B, cap2, rfl, hmc, hmm, hbt⟩ := ew_form hm
  unfold maxLen at hlm hmm
  have hrl := hide hl.2
  have hrm := hide hm.2
  clear hl hm
  replace hat := hide hat
  replace hbt := hide hbt
  obtain ⟨R, hR⟩ : ∃ R, R = decide (eds L = eds M) := ⟨_, rfl⟩
  rw [← hR]
  rw [← eqP_eds] at hR
  by_cases hn : L.length = M.length
  · replace hR := hide hR
    obtain ⟨n, hln⟩ : ∃ n, n = L.length := ⟨_, rfl⟩
    have hmn : n = M.length := by omega
    rw [← hln] at hlc ⊢
    rw [← hmn] at hmc ⊢
    have hlI := hide hln
    have hmI := hide hmn
    clear hn hln hmn
    go_enter Tryz.func24, Tryz.ntmps24
    go_wp2_with fail
    go_loopg [5] n (fun gh i wr => ∃ (k : Nat), i = .int .i64 k ∧ k + gh = n ∧ Hid (R = eqP (fun x y : Ve => decide (x.2 = y.2)) (L.drop k) (M.drop k)) ∧ Ext w wr)
    case atStart => exact ⟨0, rfl, by omega, hR, Ext.refl w⟩
    case round =>
      obtain ⟨k, rfl, hk, hRk, hX⟩ := hrel
      clear hR
      by_cases hlt : k < n
      · obtain ⟨x, hx⟩ : ∃ x, L[k]? = some x := ⟨_, List.getElem?_eq_getElem (by have := hlI.out; omega)⟩
        obtain ⟨y, hy⟩ : ∃ y, M[k]? = some y := ⟨_, List.getElem?_eq_getElem (by have := hmI.out; omega)⟩
        obtain ⟨b, o, rfl, -, hb, c0, c1, c2⟩ := hat.out k x hx
        obtain ⟨b', o', rfl, -, hb', d0, d1, d2⟩ := hbt.out k y hy
        have k0 := cell_later hX c0
        have k1 := cell_later hX c1
        have k2 := cell_later hX c2
        have j0 := cell_later hX d0
        have j1 := cell_later hX d1
        have j2 := cell_later hX d2
        have hbr : b < wr.heap.size := block_lt_of_cell k0
        have hbr' : b' < wr.heap.size := block_lt_of_cell j0
        haveI : In b wr := ⟨hbr⟩
        haveI : In b' wr := ⟨hbr'⟩
        have hrx := Sl.ext (hrl.out x (List.mem_of_getElem? hx)) hX
        have hry := Sl.ext (hrm.out y (List.mem_of_getElem? hy)) hX
        have hR2 := hRk.out
        rw [drop_cons hx, drop_cons hy] at hR2
        obtain ⟨xv, xq, xa, xn⟩ := x
        obtain ⟨yv, yq, ya, yn⟩ := y
        simp only at k0 k1 k2 j0 j1 j2 hrx hry
        have hq := hide (fun w' (hXw : Ext wr w') => refRowSame_c (Sl.ext hrx hXw) (Sl.ext hry hXw))
        obtain ⟨XA, xcap, rfl⟩ := rw_val hrx
        obtain ⟨YA, ycap, rfl⟩ := rw_val hry
        have hyes : Hid ((xq, (xa, xn)) = (yq, (ya, yn)) → R = eqP (fun x y : Ve => decide (x.2 = y.2)) (L.drop (k + 1)) (M.drop (k + 1))) := fun h => by
          rw [hR2]; exact eqP_yes (p := (fun x y : Ve => decide (x.2 = y.2))) (x := (.slice XA xq.length xcap, xq, xa, xn)) (y := (.slice YA yq.length ycap, yq, ya, yn)) (decide_eq_true h)
        have hno : Hid ((xq, (xa, xn)) ≠ (yq, (ya, yn)) → R = false) := fun h => by
          rw [hR2]; exact eqP_no (p := (fun x y : Ve => decide (x.2 = y.2))) (x := (.slice XA xq.length xcap, xq, xa, xn)) (y := (.slice YA yq.length ycap, yq, ya, yn)) (decide_eq_false h)
        clear c0 c1 c2 d0 d1 d2 hat hbt hx hy hlI hmI hRk hrx hry hrl hrm hR2
        by_cases e1 : xa = ya
        · by_cases e2 : xn = yn
          · subst e1; subst e2
            by_cases e3 : xq = yq
            · have hf := hide (hyes.out (by rw [e3]))
              rw [decide_eq_true e3] at hq
              have b1 : (xa != xa) = false := by simp
              have b2 : (xn != xn) = false := by simp
              replace e3 := hide e3
              clear hyes hno
              go_wp2_with fail
              refine wp_region_gw (by kernel_rfl) (by kernel_rfl) ?_
              repeat (go_big_quiet_step ((go_at_call 41; with_reducible exact quiet_gw (hq.out _ (GW.grown _)))))
              refine wpQuiet_nil ?_
              intro g
              go_wp2_with fail
              go_roundg (n - (k + 1))
              case measure => omega
              case rel => exact ⟨k + 1, by go_num, by omega, hf, hX.trans g.grown⟩
            · have hf := hide (hno.out (fun h => e3 (Prod.mk.inj h).1))
              rw [decide_eq_false e3] at hq
              have b1 : (xa != xa) = false := by simp
              have b2 : (xn != xn) = false := by simp
              replace e3 := hide e3
              clear hyes hno
              go_wp2_with fail
              refine wp_region_gw (by kernel_rfl) (by kernel_rfl) ?_
              repeat (go_big_quiet_step ((go_at_call 41; with_reducible exact quiet_gw (hq.out _ (GW.grown _)))))
              refine wpQuiet_nil ?_
              intro g
              go_wp2_with fail
              go_returns
              exact ⟨by rw [hf.out]; rfl, hX.trans g.grown⟩
          · subst e1
            have hf := hide (hno.out (fun h => e2 (Prod.mk.inj (Prod.mk.inj h).2).2))
            have b1 : (xa != xa) = false := by simp
            have b2 : (xn != yn) = true := by simp [e2]
            replace e2 := hide e2
            clear hyes hno hq
            go_wp2_with fail
            refine wp_region_gw (by kernel_rfl) (by kernel_rfl) ?_
            repeat (go_big_quiet_step (fail))
            refine wpQuiet_nil ?_
            intro g
            go_wp2_with fail
            go_returns
            exact ⟨by rw [hf.out]; rfl, hX.trans g.grown⟩
        · have hf := hide (hno.out (fun h => e1 (Prod.mk.inj (Prod.mk.inj h).2).1))
          have b1 : (xa != ya) = true := by simp [e1]
          replace e1 := hide e1
          clear hyes hno hq
          go_wp2_with fail
          refine wp_region_gw (by kernel_rfl) (by kernel_rfl) ?_
          repeat (go_big_quiet_step (fail))
          refine wpQuiet_nil ?_
          intro g
          go_wp2_with fail
          go_returns
          exact ⟨by rw [hf.out]; rfl, hX.trans g.grown⟩
      · have hk' : k = n := by omega
        have hge : (n : Int) ≤ k := by omega
        have hR2 := hRk.out
        rw [List.drop_eq_nil_of_le (by have := hlI.out; omega), List.drop_eq_nil_of_le (by have := hmI.out; omega)] at hR2
        replace hR2 : R = true := hR2
        replace hR2 := hide hR2
        replace hk' := hide hk'
        go_wp2_with fail
        go_returns
        exact ⟨by rw [hR2.out]; rfl, hX⟩
  · have hR2 := hR.trans (eqP_len hn)
    replace hR2 := hide hR2
    have hnI : ¬ (L.length : Int) = M.length := by omega
    clear hR hn
    go_enter Tryz.func24, Tryz.ntmps24
    go_wp2_with fail
    go_returns
    exact ⟨by rw [hR2.out]; rfl, Ext.refl w⟩
end Go.Proofs.YtobmjcehgpmfgaaGreat
set_option linter.unusedVariables false
set_option linter.unusedSimpArgs false
namespace Go.Proofs.YtobmjcehgpmfgaaGreat
open Go.RowKit
attribute [local go_sem] GW.cell GW.frozen In.eq_true In.le_true In.ne In.ne' In.ne_add In.ne_add' In.lt_add Upto.le_true Upto.le_add Upto.lt_add
def rB : List Vl := [(1, 1, ⟨#[]⟩)]
abbrev oB : Obj := .cells #[.int .i64 1, .int .i64 1, .string ⟨#[]⟩] 113
theorem rwB (w : World) : Rw (w.alloc oB) [] (.slice (some ⟨w.heap.size, 0, none⟩) 1 1) rB := Sl.own (World.ownsRow_lit (base := w.heap.size) (e := 113) (size := 3) w #[.int .i64 1, .int .i64 1, .string ⟨#[]⟩] 1 (Nat.le_refl _) (by decide) rfl) (by simp)
def xB1 : List Ed := [(rB, (2, 1)), (rB, (9, -1))]
def xB2 : List Ed := [(rB, (-1, 1)), (rB, (9, -1))]
def xB3 : List Ed := [(rB, (4, 1))]
theorem baB1 : baE [] (-1) xB1 = 0 := by decide +kernel
theorem neB1 : neR ([] ++ xB1) = xB1 := by decide +kernel
theorem baB3 : baE xB2 5 xB3 = 16 := by decide +kernel
theorem gB1 : grp xB1 = [(rB, [(2, 1), (9, -1)])] := by decide +kernel
theorem gB2 : grp xB2 = [(rB, [(-1, 1), (9, -1)])] := by decide +kernel
theorem reB : reE [(2, 1), (9, -1)] 5 = 0 := by decide +kernel
theorem rgB : restG 5 (rB, [(2, 1), (9, -1)]) = (rB, [(-1, 1), (9, -1)]) := by decide +kernel
theorem tabB2 : tabE xB2 = true := by decide +kernel
theorem inB (X : List Ed) (h : ∀ e ∈ X, e.1 = rB) : edsIn X := fun e he x hx => by rw [h e he] at hx; simp [rB] at hx; subst hx; decide
theorem one_of {T : List Fe} {g : Gp} (h : (T.map (·.2.2)).Perm [g]) : ∃ p : Fe, T = [p] ∧ p.2.2 = g := by
  have e := List.perm_singleton.1 h
  match T, e with
  | [p], e => exact ⟨p, rfl, by simpa using e⟩
theorem updB {p u : Fe} (h : p.2.2.1 = u.2.2.1) (hu : u.2.2.2 ≠ []) : updT rowB [p] [u] = [u] := by
  have hs : (fent rowB p).1.sameKey (fent rowB u).1 = true := by rw [same_ent, h]; simp
  have hu' : u.2.2.2.isEmpty = false := by cases hq : u.2.2.2 with
    | nil => exact absurd hq hu
    | cons _ _ => rfl
  simp [updT, hs, hu']
theorem ew_two {w W : World} {S : List Nat} {sr : Value} {r : List Vl} {a b : Jp} (h : Rw W S sr r) (hS : ∀ x, x ∈ S → x < W.heap.size) : Ew (W.alloc (.cells #[sr, .int .i64 a.1, .int .i64 a.2, sr, .int .i64 b.1, .int .i64 b.2] 115)) S (.slice (some ⟨W.heap.size, 0, none⟩) 2 2) [(sr, r, a), (sr, r, b)] :=
  ⟨Sl.own (World.ownsRow_lit (base := W.heap.size) (e := 115) (size := 3) W #[sr, .int .i64 a.1, .int .i64 a.2, sr, .int .i64 b.1, .int .i64 b.2] 2 (Nat.le_refl _) (by decide) rfl) hS, fun p hp => by
    simp only [List.mem_cons, List.not_mem_nil, or_false] at hp
    rcases hp with rfl | rfl <;> exact Sl.alloc h _⟩
theorem ew_single {W : World} {S : List Nat} {sr : Value} {r : List Vl} {a : Jp} (h : Rw W S sr r) (hS : ∀ x, x ∈ S → x < W.heap.size) : Ew (W.alloc (.cells #[sr, .int .i64 a.1, .int .i64 a.2] 115)) S (.slice (some ⟨W.heap.size, 0, none⟩) 1 1) [(sr, r, a)] :=
  ⟨Sl.own (World.ownsRow_lit (base := W.heap.size) (e := 115) (size := 3) W #[sr, .int .i64 a.1, .int .i64 a.2] 1 (Nat.le_refl _) (by decide) rfl) hS, fun p hp => by
    simp only [List.mem_cons, List.not_mem_nil, or_false] at hp
    subst hp
    exact Sl.alloc h _⟩
/-- Of a bag with one row: what is forgotten. -/
theorem bagForget_1 (B mb n : Nat) (T : List Fe) (w : World) (h : Bg rowB w [B, mb] B mb n (-1) T) (hx : BagX T xB1) (hBm : B ≠ mb) (hn : n ≤ 900000000) : Calls Tryz.prog 19 #[.pointer (some ⟨B, 0, none⟩), .int .i64 5] w fun e w' => e = .returned (.int .i64 0) ∧ ∃ u : Fe, u.2.2 = (rB, [(-1, 1), (9, -1)]) ∧ Bg rowB w' [B, mb] B mb (n + 1) 5 [u] ∧ Fr [B, mb] w w' := by
  have hT := hx.2.1
  rw [gB1] at hT
  obtain ⟨p, rfl, hp⟩ := one_of hT
  have hml := h.2.1.lt
  have hbl := h.1.lt
  refine (bagForget_c rowB [B, mb] B mb n (-1) 5 [p] (by simp; omega) w h hBm (by intro x hx'; simp only [List.mem_cons, List.not_mem_nil, or_false] at hx'; omega) ⟨by simp, by simp⟩).mono ?_
  rintro e w' ⟨-, h2⟩
  rcases h2 (by decide) with ⟨q, hq, hq0, -⟩ | ⟨-, rfl, U, hU, hUr, hM, hO, hF⟩
  · obtain rfl := List.mem_singleton.1 hq
    rw [hp] at hq0
    exact absurd reB hq0
  · rw [List.map_singleton, hp, rgB] at hU
    obtain ⟨u, rfl, hu⟩ := one_of hU
    rw [updB (by rw [hp, hu]) (by rw [hu]; simp)] at hM
    exact ⟨rfl, u, hu, ⟨hO, hM, hUr⟩, hF⟩
theorem bagX2 {u : Fe} (hu : u.2.2 = (rB, [(-1, 1), (9, -1)])) : BagX [u] xB2 := ⟨tabB2, by rw [gB2, List.map_singleton, hu], inB _ (by intro e he; simp [xB2] at he; rcases he with rfl | rfl <;> rfl)⟩
theorem begB {u : Fe} (hu : u.2.2 = (rB, [(-1, 1), (9, -1)])) : begT [u] = 1 := by
  unfold begT
  rw [List.map_singleton, hu]
  decide
set_option maxHeartbeats 8000000 in
set_option maxRecDepth 100000 in
theorem bagLive_c (w : World) : Calls Tryz.prog 14 #[] w fun e w' => e = .returned (.bool true) ∧ Ext w w' := by
  have h0 := hide (rwB w)
  have hX0 := hide ((Ext.refl w).alloc oB)
  have hz0 : (w.alloc oB).heap.size = w.heap.size + 1 := World.size_alloc _ _
  go_enter Tryz.func14, Tryz.ntmps14
  go_wp2_with (go_at_call 15; refine (bagNew_c rowB _).mono ?_; rintro ee w1 ⟨B, mb, rfl, ⟨hB, hmb, hBm, hbg⟩, hX1⟩)
  rw [hz0] at hB hmb
  have hBl := hbg.1.lt
  have hml := hbg.2.1.lt
  have hb1 : Bg rowB w1 [B, mb] B mb 0 (-1) [] := ⟨hbg.1, hbg.2.1, by simp⟩
  have hr1 : Rw w1 [B, mb] (.slice (some ⟨w.heap.size, 0, none⟩) 1 1) rB := Sl.ext (Sl.new h0.out (by intro x hx; simp only [List.mem_cons, List.not_mem_nil, or_false] at hx; rw [hz0]; omega)) hX1
  have hS1 : ∀ x, x ∈ [B, mb] → x < w1.heap.size := by intro x hx; simp only [List.mem_cons, List.not_mem_nil, or_false] at hx; omega
  have hE1 := ew_two (a := (2, 1)) (b := (9, -1)) (w := w) hr1 hS1
  have hXa := (Ext.refl w1).alloc (.cells #[.slice (some ⟨w.heap.size, 0, none⟩) 1 1, .int .i64 2, .int .i64 1, .slice (some ⟨w.heap.size, 0, none⟩) 1 1, .int .i64 9, .int .i64 (-1)] 115)
  have hadd := bagAdd_c _ B mb 0 (-1) [] [] _ _ (hE1.less (by simp)) (inB _ (by intro e he; simp [eds] at he; rcases he with rfl | rfl <;> rfl)) (hb1.ext hXa) BagX.nil hBm (by omega)
  rw [show eds [((.slice (some ⟨w.heap.size, 0, none⟩) 1 1, rB, (2, 1)) : Ve), (.slice (some ⟨w.heap.size, 0, none⟩) 1 1, rB, (9, -1))] = xB1 from rfl, baB1, neB1] at hadd
  replace hadd := hide hadd
  have hra := hide (Sl.ext hr1 hXa)
  have hXw1 := hide (hX0.out.trans hX1)
  clear hbg hb1 hr1 hE1 hX1 h0
  go_wp2_with (go_at_call 17; (refine hadd.out.mono ?_; rintro ee w2 ⟨rfl, ⟨h, -⟩ | ⟨-, T1, n1, hb2, hn1, hx1, hF2⟩⟩; · exact absurd rfl h))
  refine (bagForget_1 B mb n1 T1 _ hb2 hx1 hBm (by omega)).mono ?_
  rintro ee w3 ⟨rfl, u, hu, hb3, hF3⟩
  have hr3 : Rw w3 [B, mb] (.slice (some ⟨w.heap.size, 0, none⟩) 1 1) rB := Sl.fr (Sl.fr hra.out hF2 (by simp)) hF3 (by simp)
  have hXw3 := hide (ext_fr (ext_fr (hXw1.out.trans hXa) hF2 (by intro y hy; simp at hy; subst hy; omega)) hF3 (by intro y hy; simp only [List.mem_cons, List.not_mem_nil, or_false] at hy; omega))
  have hzz := hF2.size
  have hzz3 := hF3.size
  simp only [World.size_alloc] at hzz
  have hS3 : ∀ x, x ∈ [B, mb] → x < w3.heap.size := by intro x hx; simp only [List.mem_cons, List.not_mem_nil, or_false] at hx; omega
  have hE3 := ew_single (a := (4, 1)) hr3 hS3
  have hXc := (Ext.refl w3).alloc (.cells #[.slice (some ⟨w.heap.size, 0, none⟩) 1 1, .int .i64 4, .int .i64 1] 115)
  have hadd3 := bagAdd_c _ B mb (n1 + 1) 5 [u] xB2 _ _ (hE3.less (by simp)) (inB _ (by intro e he; simp [eds] at he; subst he; rfl)) (hb3.ext hXc) (bagX2 hu) hBm (by omega)
  rw [show eds [((.slice (some ⟨w.heap.size, 0, none⟩) 1 1, rB, (4, 1)) : Ve)] = xB3 from rfl, baB3] at hadd3
  replace hadd3 := hide (hadd3.mono fun e w' hh => show e = .returned (.int .i64 16) ∧ Ext (w3.alloc (.cells #[.slice (some ⟨w.heap.size, 0, none⟩) 1 1, .int .i64 4, .int .i64 1] 115)) w' from ⟨hh.1, hh.2.elim (fun k => k.2) (fun k => absurd k.1 (by decide))⟩)
  have hrc := hide (Sl.ext hr3 hXc)
  have hbc := hide (hb3.ext hXc)
  have hXwc := hide (hXw3.out.trans hXc)
  have hx2 := hide (bagX2 hu)
  have hbe := begB hu
  clear hadd hb2 hb3 hr3 hE3 hF2 hF3 hXa hXc hx1 hra
  go_wp2_with (first
    | (go_at_call 17; refine hadd3.out.mono ?_; rintro ee w4 ⟨rfl, hX4⟩)
    | (go_at_call 21; (with_reducible refine seq_gw (bagMark_c rowB _ _ _ _ _ _ _ (hbc.out.ext hX4)) ?_); intro g5)
    | (go_at_call 22; have hct := bagCount_c rowB _ _ _ _ _ _ (by rw [hbe]; decide) _ (hbc.out.ext (hX4.trans g5.grown)); rw [hbe] at hct; (with_reducible refine seq_gw' hct ?_); intro g6; clear hct)
    | (go_at_call 25; refine (bagEdges_c _ _ _ _ _ _ _ (hbc.out.ext (hX4.trans g6.grown)) hx2.out).mono ?_; rintro ee w7 ⟨v7, M, rfl, hM, ho7, hX7⟩; obtain ⟨A7, c7, rfl⟩ := own_form ho7.1; have hM' := hide hM; have ho7' := hide ho7; have hX7' := hide ((hX4.trans g6.grown).trans hX7); clear hM ho7 hX7)
    | (go_at_call 24; (have hsm := refEdgeSame_c (ho7'.out.ew.ext ((Ext.refl w7).alloc (.cells #[.slice (some ⟨w.heap.size, 0, none⟩) 1 1, .int .i64 (-1), .int .i64 1, .slice (some ⟨w.heap.size, 0, none⟩) 1 1, .int .i64 9, .int .i64 (-1)] 115))) (ew_two (S := []) (a := (-1, 1)) (b := (9, -1)) (w := w) (Sl.less (Sl.ext hrc.out hX7'.out) (by simp)) (by simp)); rw [hM'.out, show eds [((.slice (some ⟨w.heap.size, 0, none⟩) 1 1, rB, (-1, 1)) : Ve), (.slice (some ⟨w.heap.size, 0, none⟩) 1 1, rB, (9, -1))] = xB2 from rfl, decide_eq_true rfl] at hsm; (with_reducible refine seq_gw hsm ?_); intro g8; clear hsm)))
  go_returns
  exact ⟨by first | rfl | simp, ((hXwc.out.trans hX7'.out).alloc _).trans g8.grown⟩
end Go.Proofs.YtobmjcehgpmfgaaGreat
set_option linter.unusedVariables false
set_option linter.unusedSimpArgs false
namespace Go.Proofs.YtobmjcehgpmfgaaGreat
open Go.RowKit
attribute [local go_sem] GW.cell GW.frozen In.eq_true In.le_true In.ne In.ne' In.ne_add In.ne_add' In.lt_add Upto.le_true Upto.le_add Upto.lt_add
/-- Both ends of each piece. -/
def endsE (l : List Ed) : List Ed := l.flatMap fun e => [(e.1, (e.2.1, 1)), (e.1, (e.2.2, -1))]
def endsV (L : List Ve) : List Ve := L.flatMap fun p => [(p.1, p.2.1, (p.2.2.1, 1)), (p.1, p.2.1, (p.2.2.2, -1))]
/-- What is wrong with pieces whose edges are asked for; they. -/
def pkE (l : List Ed) : Int := if l.all mayPc then (if 4096 < l.length then 7 else neE (endsE l)) else 2
def pkR (l : List Ed) : List Ed := if pkE l = 0 then neR (endsE l) else []
end Go.Proofs.YtobmjcehgpmfgaaGreat
set_option linter.unusedVariables false
set_option linter.unusedSimpArgs false
namespace Go.Proofs.YtobmjcehgpmfgaaGreat
open Go.RowKit
attribute [local go_sem] GW.cell GW.frozen In.eq_true In.le_true In.ne In.ne' In.ne_add In.ne_add' In.lt_add Upto.le_true Upto.le_add Upto.lt_add
/-- What is wrong with pieces that are packed; they, packed. -/
def ppE (l : List Ed) : Int := if pkE l = 0 then pcE (pkR l) else pkE l
def ppR (l : List Ed) : List Ed := if pkE l = 0 then pcR (pkR l) else []
end Go.Proofs.YtobmjcehgpmfgaaGreat
set_option linter.unusedVariables false
set_option linter.unusedSimpArgs false
namespace Go.Proofs.YtobmjcehgpmfgaaGreat
open Go.RowKit
attribute [local go_sem] GW.cell GW.frozen In.eq_true In.le_true In.ne In.ne' In.ne_add In.ne_add' In.lt_add Upto.le_true Upto.le_add Upto.lt_add
def pI : List Vl := [(1, 1, ⟨#[]⟩)]
end Go.Proofs.YtobmjcehgpmfgaaGreat
set_option linter.unusedVariables false
set_option linter.unusedSimpArgs false
namespace Go.Proofs.YtobmjcehgpmfgaaGreat
open Go.RowKit
attribute [local go_sem] GW.cell GW.frozen In.eq_true In.le_true In.ne In.ne' In.ne_add In.ne_add' In.lt_add Upto.le_true Upto.le_add Upto.lt_add
end Go.Proofs.YtobmjcehgpmfgaaGreat
set_option linter.unusedVariables false
set_option linter.unusedSimpArgs false
namespace Go.Proofs.YtobmjcehgpmfgaaGreat
open Go.RowKit
attribute [local go_sem] GW.cell GW.frozen In.eq_true In.le_true In.ne In.ne' In.ne_add In.ne_add' In.lt_add Upto.le_true Upto.le_add Upto.lt_add
/-- What of a piece is ahead of a tick, what is from it on. -/
def pcAh (t : Int) (e : Ed) : List Ed := if e.2.1 < t then [(e.1, (e.2.1, min e.2.2 t))] else []
def pcRe (t : Int) (e : Ed) : List Ed := if t < e.2.2 then [(e.1, (max e.2.1 t, e.2.2))] else []
end Go.Proofs.YtobmjcehgpmfgaaGreat
set_option linter.unusedVariables false
set_option linter.unusedSimpArgs false
namespace Go.Proofs.YtobmjcehgpmfgaaGreat
open Go.RowKit
attribute [local go_sem] GW.cell GW.frozen In.eq_true In.le_true In.ne In.ne' In.ne_add In.ne_add' In.lt_add Upto.le_true Upto.le_add Upto.lt_add
end Go.Proofs.YtobmjcehgpmfgaaGreat
set_option linter.unusedVariables false
set_option linter.unusedSimpArgs false
namespace Go.Proofs.YtobmjcehgpmfgaaGreat
open Go.RowKit
attribute [local go_sem] GW.cell GW.frozen In.eq_true In.le_true In.ne In.ne' In.ne_add In.ne_add' In.lt_add Upto.le_true Upto.le_add Upto.lt_add
end Go.Proofs.YtobmjcehgpmfgaaGreat
set_option linter.unusedVariables false
set_option linter.unusedSimpArgs false
namespace Go.Proofs.YtobmjcehgpmfgaaGreat
open Go.RowKit
attribute [local go_sem] GW.cell GW.frozen In.eq_true In.le_true In.ne In.ne' In.ne_add In.ne_add' In.lt_add Upto.le_true Upto.le_add Upto.lt_add
def oneX (u : Value) (r : List Vl) (j : Jp) : Fact := .st (fun v w => Sl w [] 3 v 1 (ec1 (u, r, j))) (fun _ _ _ h k => Sl.ext h k)
end Go.Proofs.YtobmjcehgpmfgaaGreat
