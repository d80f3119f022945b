/-
  A helper of ours: no claim of its own. Layer 16 (align): what must be whatever is asked.
-/
import Derived.Test.YtjmoifbajjemmaaGreatAlnK
set_option linter.unusedVariables false
set_option linter.unusedSimpArgs false
namespace Go.Proofs.YtjmoifbajjemmaaGreat
open Go.RowKit
attribute [local go_sem] GW.cell GW.frozen In.eq_true In.le_true In.ne In.ne' In.ne_add In.ne_add' In.lt_add Upto.le_true Upto.le_add Upto.lt_add
def AL (w : World) (S : List Nat) (a ia : Nat) (X : List Xi) : Prop := ∃ st, absX st = X ∧ IA w S a ia st
def RL (w : World) (S : List Nat) (r cb hb cc hc : Nat) (X : List Xi) : Prop := ∃ st, absX st = X ∧ RA w S r cb hb cc hc st
section
variable {w w' : World} {S S' : List Nat} {a ia r cb hb cc hc : Nat} {X : List Xi} {st : List Hi}
theorem AL.ext (h : AL w S a ia X) (k : Ext w w') : AL w' S a ia X := by obtain ⟨st, h1, h2⟩ := h; exact ⟨st, h1, h2.ext k⟩
theorem AL.fr (h : AL w S a ia X) (k : Fr S' w w') (hs : ∀ b, b ∈ S' → b ∈ S) (hi : ia ∉ S') : AL w' S a ia X := by obtain ⟨st, h1, h2⟩ := h; exact ⟨st, h1, h2.fr k hs hi⟩
theorem RL.ext (h : RL w S r cb hb cc hc X) (k : Ext w w') : RL w' S r cb hb cc hc X := by obtain ⟨st, h1, h2⟩ := h; exact ⟨st, h1, h2.ext k⟩
theorem RL.fr (h : RL w S r cb hb cc hc X) (k : Fr S' w w') (hs : ∀ b, b ∈ S' → b ∈ S) (h1 : cb ∉ S') (h2 : hb ∉ S') : RL w' S r cb hb cc hc X := by obtain ⟨st, e1, e2⟩ := h; exact ⟨st, e1, e2.fr k hs h1 h2⟩
theorem AL.lt (h : AL w S a ia X) : a < w.heap.size ∧ ia < w.heap.size := by obtain ⟨st, h1, h2⟩ := h; exact ⟨h2.1.1.lt, h2.1.2.lt⟩
theorem RL.lt (h : RL w S r cb hb cc hc X) : r < w.heap.size ∧ cb < w.heap.size ∧ hb < w.heap.size := by obtain ⟨st, h1, h2⟩ := h; exact ⟨h2.1.1.lt, h2.cblt, h2.hblt⟩
theorem st_len (h : absX st = X) : st.length = X.length := by rw [← h, absX_len]
theorem st_each {N : Nat} (h : absX st = X) (hX : ∀ p ∈ X, p.2.length ≤ N) : ∀ p ∈ st, p.2.2.length ≤ N := fun p hp => by
  have := hX (p.1, eds p.2.2) (by rw [← h]; exact List.mem_map.2 ⟨p, hp, rfl⟩)
  simpa [eds] using this
end
theorem lPut_c (S : List Nat) (a ia : Nat) (X : List Xi) (k : Int) (u : Value) (M : List Ve) (w : World) (h : AL w S a ia X) (hu : Ew w [] u M) (hS : ∀ b, b ∈ S → b < w.heap.size) : Calls Tryz.prog 12 #[.pointer (some ⟨a, 0, none⟩), .int .i64 k, u] w fun e w' => e = .returned (.int .i64 (putE X k (eds M))) ∧ AL w' S a ia (putX X k (eds M)) ∧ Fr [ia] w w' := by
  obtain ⟨st, rfl, h2⟩ := h
  exact alPut_c S a ia st k u M w h2 hu hS
theorem lRaise_c (S : List Nat) (a ia : Nat) (X : List Xi) (k t : Int) (w : World) (h : AL w S a ia X) : Calls Tryz.prog 14 #[.pointer (some ⟨a, 0, none⟩), .int .i64 k, .int .i64 t] w fun e w' => e = .returned (.int .i64 (raiE X k t)) ∧ AL w' S a ia (raiX X k t) ∧ Fr [ia] w w' := by
  obtain ⟨st, rfl, h2⟩ := h
  exact alRaise_c S a ia st k t w h2
theorem lClock_c (S : List Nat) (a ia : Nat) (X : List Xi) (h8 : X.length ≤ 8) (w : World) (h : AL w S a ia X) : Calls Tryz.prog 7 #[.pointer (some ⟨a, 0, none⟩)] w fun e w' => e = .returned (.int .i64 (clkX X)) ∧ Ext w w' := by
  obtain ⟨st, rfl, h2⟩ := h
  exact alClock_c S a ia st (by rw [← absX_len]; exact h8) w h2
theorem lHeld_c (S : List Nat) (a ia : Nat) (X : List Xi) (h8 : X.length ≤ 8) (hN : heldN X ≤ 1000000000) (w : World) (h : AL w S a ia X) : Calls Tryz.prog 8 #[.pointer (some ⟨a, 0, none⟩)] w fun e w' => e = .returned (.int .i64 (heldN X)) ∧ Ext w w' := by
  obtain ⟨st, rfl, h2⟩ := h
  exact alHeld_c S a ia st (by rw [← absX_len]; exact h8) hN w h2
theorem lRelease_c (S : List Nat) (a ia : Nat) (X : List Xi) (h8 : X.length ≤ 8) (hN : ∀ p ∈ X, p.2.length ≤ 1000000000) (w : World) (h : AL w S a ia X) (hS : ∀ b, b ∈ S → b < w.heap.size) : Calls Tryz.prog 9 #[.pointer (some ⟨a, 0, none⟩)] w fun e w' => ∃ v H, e = .returned v ∧ H.map (fun p => eds p.2) = sureX (clkX X) X ∧ Mt w' S v H ∧ AL w' S a ia (openX (clkX X) X) ∧ Fr [ia] w w' := by
  obtain ⟨st, rfl, h2⟩ := h
  exact alRelease_c S a ia st (by rw [← absX_len]; exact h8) (st_each rfl hN) w h2 hS
theorem mPut_c (S : List Nat) (r cb hb cc hc : Nat) (X : List Xi) (k : Int) (u : Value) (M : List Ve) (hLM : ∀ p ∈ X, p.2.length + M.length ≤ 1024) (w : World) (h : RL w S r cb hb cc hc X) (hu : Ew w [] u M) (hS : ∀ b, b ∈ S → b < w.heap.size) : Calls Tryz.prog 13 #[.pointer (some ⟨r, 0, none⟩), .int .i64 k, u] w fun e w' => e = .returned (.int .i64 (putE X k (eds M))) ∧ RL w' S r cb hb cc hc (putX X k (eds M)) ∧ Fr [hb] w w' := by
  obtain ⟨st, rfl, h2⟩ := h
  refine refAlPut_c S r cb hb cc hc st k u M (fun p hp => ?_) w h2 hu hS
  have := hLM (p.1, eds p.2.2) (List.mem_map.2 ⟨p, hp, rfl⟩)
  simpa [eds] using this
theorem mRaise_c (S : List Nat) (r cb hb cc hc : Nat) (X : List Xi) (k t : Int) (w : World) (h : RL w S r cb hb cc hc X) : Calls Tryz.prog 15 #[.pointer (some ⟨r, 0, none⟩), .int .i64 k, .int .i64 t] w fun e w' => e = .returned (.int .i64 (raiE X k t)) ∧ RL w' S r cb hb cc hc (raiX X k t) ∧ Fr [cb] w w' := by
  obtain ⟨st, rfl, h2⟩ := h
  exact refAlRaise_c S r cb hb cc hc st k t w h2
theorem mClock_c (S : List Nat) (r cb hb cc hc : Nat) (X : List Xi) (h1 : 1 ≤ X.length) (h8 : X.length ≤ 8) (hI : InvX X) (w : World) (h : RL w S r cb hb cc hc X) : Calls Tryz.prog 18 #[.pointer (some ⟨r, 0, none⟩)] w fun e w' => e = .returned (.int .i64 (clkX X)) ∧ Ext w w' := by
  obtain ⟨st, rfl, h2⟩ := h
  exact refAlClock_c S r cb hb cc hc st (by rw [← absX_len]; exact h1) (by rw [← absX_len]; exact h8) hI w h2
theorem mHeld_c (S : List Nat) (r cb hb cc hc : Nat) (X : List Xi) (h8 : X.length ≤ 8) (hN : heldN X ≤ 1000000000) (w : World) (h : RL w S r cb hb cc hc X) : Calls Tryz.prog 19 #[.pointer (some ⟨r, 0, none⟩)] w fun e w' => e = .returned (.int .i64 (heldN X)) ∧ Ext w w' := by
  obtain ⟨st, rfl, h2⟩ := h
  exact refAlHeld_c S r cb hb cc hc st (by rw [← absX_len]; exact h8) hN w h2
theorem mRelease_c (S : List Nat) (r cb hb cc hc : Nat) (X : List Xi) (h1 : 1 ≤ X.length) (h8 : X.length ≤ 8) (hI : InvX X) (hN : ∀ p ∈ X, p.2.length ≤ 1000000000) (w : World) (h : RL w S r cb hb cc hc X) (hS : ∀ b, b ∈ S → b < w.heap.size) : Calls Tryz.prog 17 #[.pointer (some ⟨r, 0, none⟩)] w fun e w' => ∃ v H, e = .returned v ∧ H.map (fun p => eds p.2) = sureX (clkX X) X ∧ Mt w' S v H ∧ RL w' S r cb hb cc hc (openX (clkX X) X) ∧ Fr [hb] w w' := by
  obtain ⟨st, rfl, h2⟩ := h
  exact refAlRelease_c S r cb hb cc hc st (by rw [← absX_len]; exact h1) (by rw [← absX_len]; exact h8) hI (st_each rfl hN) w h2 hS
theorem cell_fr {w w' : World} {S : List Nat} {b o : Nat} {u : Value} (k : Fr S w w') (hc : w.cell? ⟨b, o, none⟩ = some u) (hn : b ∉ S) : w'.cell? ⟨b, o, none⟩ = some u :=
  (World.cell?_of_block (a := ⟨b, o, none⟩) (k.block b (block_lt_of_cell hc) hn)).trans hc
theorem absX_nil (n : Nat) : absX (List.replicate n nilI) = List.replicate n (0, []) := by simp [absX, eds]
end Go.Proofs.YtjmoifbajjemmaaGreat
set_option linter.unusedVariables false
set_option linter.unusedSimpArgs false
namespace Go.Proofs.YtjmoifbajjemmaaGreat
open Go.RowKit
attribute [local go_sem] GW.cell GW.frozen In.eq_true In.le_true In.ne In.ne' In.ne_add In.ne_add' In.lt_add Upto.le_true Upto.le_add Upto.lt_add
def rJ : List Vl := [(1, 1, ⟨#[]⟩)]
abbrev oJ : Obj := .cells #[.int .i64 1, .int .i64 1, .string ⟨#[]⟩] 53
theorem rwJ (w : World) : Rw (w.alloc oJ) [] (.slice (some ⟨w.heap.size, 0, none⟩) 1 1) rJ := Sl.own (World.ownsRow_lit (base := w.heap.size) (e := 53) (size := 3) w #[.int .i64 1, .int .i64 1, .string ⟨#[]⟩] 1 (Nat.le_refl _) (by decide) rfl) (by simp)
def eJ : List Ed := [(rJ, (2, 1))]
def X0 : List Xi := [(0, []), (0, [])]
def X1 : List Xi := [(0, eJ), (0, [])]
def X2 : List Xi := [(5, eJ), (0, [])]
def X3 : List Xi := [(5, eJ), (3, [])]
def X4 : List Xi := [(5, []), (3, [])]
instance decEd : DecidableEq Ed := inferInstance
instance decEds : DecidableEq (List Ed) := inferInstance
instance decXi : DecidableEq Xi := inferInstanceAs (DecidableEq (Int × List Ed))
theorem pJE : putE X0 0 eJ = 0 := by decide +kernel
theorem pJX : putX X0 0 eJ = X1 := by decide +kernel
theorem rJE : raiE X1 0 5 = 0 := by decide +kernel
theorem rJX : raiX X1 0 5 = X2 := by decide +kernel
theorem cJ2 : clkX X2 = 0 := by decide +kernel
theorem sJ2 : sureX 0 X2 = [[], []] := by decide +kernel
theorem oJ2 : openX 0 X2 = X2 := by decide +kernel
theorem rKE : raiE X2 1 3 = 0 := by decide +kernel
theorem rKX : raiX X2 1 3 = X3 := by decide +kernel
theorem cJ3 : clkX X3 = 3 := by decide +kernel
theorem sJ3 : sureX 3 X3 = [eJ, []] := by decide +kernel
theorem oJ3 : openX 3 X3 = X4 := by decide +kernel
theorem cJ4 : clkX X4 = 3 := by decide +kernel
theorem hJ4 : heldN X4 = 0 := by decide +kernel
theorem two_H {H : List (Value × List Ve)} {a b : List Ed} (h : H.map (fun p => eds p.2) = [a, b]) : ∃ v1 l1 v2 l2, H = [(v1, l1), (v2, l2)] ∧ eds l1 = a ∧ eds l2 = b := by
  match H, h with
  | [(x, p), (y, q)], h => simp at h; exact ⟨x, p, y, q, rfl, h.1, h.2⟩
theorem lenX2 : ∀ p ∈ X2, p.2.length ≤ 1000000000 := by decide +kernel
theorem lenX3 : ∀ p ∈ X3, p.2.length ≤ 1000000000 := by decide +kernel
theorem lvPut (a ia : Nat) (u v : Value) (w : World) (h : AL w [ia] a ia X0) (hu : Ew w [] u [(v, rJ, (2, 1))]) : Calls Tryz.prog 12 #[.pointer (some ⟨a, 0, none⟩), .int .i64 0, u] w fun e w' => e = .returned (.int .i64 0) ∧ AL w' [ia] a ia X1 ∧ Fr [ia] w w' := by
  have := lPut_c [ia] a ia X0 0 u [(v, rJ, (2, 1))] w h hu (fun b hb => by rw [List.mem_singleton.1 hb]; exact h.lt.2)
  rw [show eds [((v, rJ, (2, 1)) : Ve)] = eJ from rfl, pJE, pJX] at this
  exact this
theorem lvRaise1 (a ia : Nat) (w : World) (h : AL w [ia] a ia X1) : Calls Tryz.prog 14 #[.pointer (some ⟨a, 0, none⟩), .int .i64 0, .int .i64 5] w fun e w' => e = .returned (.int .i64 0) ∧ AL w' [ia] a ia X2 ∧ Fr [ia] w w' := by
  have := lRaise_c [ia] a ia X1 0 5 w h
  rw [rJE, rJX] at this
  exact this
theorem lvRaise2 (a ia : Nat) (w : World) (h : AL w [ia] a ia X2) : Calls Tryz.prog 14 #[.pointer (some ⟨a, 0, none⟩), .int .i64 1, .int .i64 3] w fun e w' => e = .returned (.int .i64 0) ∧ AL w' [ia] a ia X3 ∧ Fr [ia] w w' := by
  have := lRaise_c [ia] a ia X2 1 3 w h
  rw [rKE, rKX] at this
  exact this
theorem lvRel1 (a ia : Nat) (w : World) (h : AL w [ia] a ia X2) : Calls Tryz.prog 9 #[.pointer (some ⟨a, 0, none⟩)] w fun e w' => ∃ b o xc A1 c1, e = .returned (.slice (some ⟨b, o, none⟩) 2 xc) ∧ b ∉ [ia] ∧ w'.cell? ⟨b, o, none⟩ = some (.slice A1 0 c1) ∧ AL w' [ia] a ia X2 ∧ Fr [ia] w w' := by
  have := lRelease_c [ia] a ia X2 (by decide) lenX2 w h (fun b hb => by rw [List.mem_singleton.1 hb]; exact h.lt.2)
  rw [cJ2, sJ2, oJ2] at this
  refine this.mono fun e w' hr => ?_
  obtain ⟨v, H, rfl, hH, hM, hA, hF⟩ := hr
  obtain ⟨v1, l1, v2, l2, rfl, e1, e2⟩ := two_H hH
  obtain ⟨A, cap, rfl, -, -, hat⟩ := mt_form hM
  obtain ⟨b, o, rfl, hb, -, c0⟩ := hat 0 _ rfl
  obtain ⟨A1, c1, e3⟩ := ew_one (hM.2 _ (List.mem_cons_self ..))
  have hl : l1.length = 0 := by have := congrArg List.length e1; simpa [eds] using this
  simp only at e3 c0
  rw [hl] at e3
  rw [e3] at c0
  exact ⟨b, o, cap, A1, c1, rfl, hb, c0, hA, hF⟩
theorem lvRel2 (a ia : Nat) (w : World) (h : AL w [ia] a ia X3) : Calls Tryz.prog 9 #[.pointer (some ⟨a, 0, none⟩)] w fun e w' => ∃ b o xc zb zo zc, e = .returned (.slice (some ⟨b, o, none⟩) 2 xc) ∧ w'.cell? ⟨b, o, none⟩ = some (.slice (some ⟨zb, zo, none⟩) 1 zc) ∧ w'.cell? ⟨zb, zo + 1, none⟩ = some (.int .i64 2) ∧ AL w' [ia] a ia X4 ∧ Fr [ia] w w' := by
  have := lRelease_c [ia] a ia X3 (by decide) lenX3 w h (fun b hb => by rw [List.mem_singleton.1 hb]; exact h.lt.2)
  rw [cJ3, sJ3, oJ3] at this
  refine this.mono fun e w' hr => ?_
  obtain ⟨v, H, rfl, hH, hM, hA, hF⟩ := hr
  obtain ⟨v1, l1, v2, l2, rfl, e1, e2⟩ := two_H hH
  obtain ⟨A, cap, rfl, -, -, hat⟩ := mt_form hM
  obtain ⟨b, o, rfl, hb, -, c0⟩ := hat 0 _ rfl
  have hew := hM.2 _ (List.mem_cons_self ..)
  simp only at hew
  obtain ⟨A1, c1, e3, -, -, hat1⟩ := ew_form hew
  match l1, e1 with
  | [(x, q, j)], e1 =>
    simp [eds, eJ] at e1
    obtain ⟨zb, zo, rfl, -, -, -, d1, -⟩ := hat1 0 _ rfl
    simp only at e3 c0
    rw [e3] at c0
    refine ⟨b, o, cap, zb, zo, c1, rfl, c0, ?_, hA, hF⟩
    have : w'.cell? ⟨zb, zo + 1, none⟩ = some (.int .i64 j.1) := by simpa using d1
    rw [this, e1.2]
set_option maxHeartbeats 8000000 in
set_option maxRecDepth 100000 in
theorem alLive_c (w : World) : Calls Tryz.prog 6 #[] w fun e w' => e = .returned (.bool true) ∧ Ext w w' := by
  have h0 := hide (rwJ w)
  have hN2 := hide (fun w' => (show Calls Tryz.prog 5 #[.int .i64 2] w' _ from alNew_c 2 (by decide) (by decide) w'))
  have hX0 := hide ((Ext.refl w).alloc oJ)
  go_enter Tryz.func6, Tryz.ntmps6
  go_wp2_with (first
    | (go_at_call 5; refine (hN2.out _).mono ?_; rintro ee w1 ⟨a, ia, rfl, ⟨ha1, ha2, hane, hoa, hoi⟩, hx1⟩; have hA1 := hide (show AL w1 [ia] a ia X0 from ⟨_, absX_nil 2, IA.new hoa hoi ⟨by simpa using hane, by simp⟩ hane⟩); have hX1 := hide (hX0.out.trans hx1); have hz1 := hX1.out.size; have hx1h := hide hx1; simp only [World.size_alloc] at ha1 ha2; clear hoa hoi hx1; replace hane := hide hane)
    | (go_at_call 12; refine (lvPut a ia _ (.slice (some ⟨w.heap.size, 0, none⟩) 1 1) _ (hA1.out.ext ((Ext.refl _).alloc _)) ⟨oneE_new _ rJ (2, 1) w1, fun p hp => by obtain rfl := List.mem_singleton.1 hp; exact Sl.ext h0.out (hx1h.out.alloc _)⟩).mono ?_; rintro ee w2 ⟨rfl, hA2, hF2⟩; replace hA2 := hide hA2; have hG2 := hide ((Fr.of_ext (S := [ia]) (hX1.out.alloc (.cells #[.slice (some ⟨w.heap.size, 0, none⟩) 1 1, .int .i64 2, .int .i64 1] 44))).trans hF2); clear hF2)
    | (go_at_call 14; first | (with_reducible refine (lvRaise1 a ia w2 hA2.out).mono ?_; rintro ee w3 ⟨rfl, hA3, hF3⟩; replace hA3 := hide hA3; have hG3 := hide (hG2.out.trans hF3); clear hF3) | (with_reducible refine (lvRaise2 a ia w4 hA4.out).mono ?_; rintro ee w5 ⟨rfl, hA5, hF5⟩; replace hA5 := hide hA5; replace hF5 := hide hF5))
    | (go_at_call 9; first | (with_reducible refine (lvRel1 a ia w3 hA3.out).mono ?_; rintro ee w4 ⟨xb, xo, xc, A1, c1, rfl, hxb, x4, hA4, hF4⟩; replace hA4 := hide hA4; have hG4 := hide (hG3.out.trans hF4); clear hF4) | (with_reducible refine (lvRel2 a ia w5 hA5.out).mono ?_; rintro ee w6 ⟨yb, yo, yc, zb, zo, zc, rfl, y6, z6, hA6, hF6⟩; replace hA6 := hide hA6; have x6 := cell_fr (hF5.out.trans hF6) x4 hxb; have lx := block_lt_of_cell x6; have ly := block_lt_of_cell y6; have lz := block_lt_of_cell z6; haveI : In xb w6 := ⟨lx⟩; haveI : In yb w6 := ⟨ly⟩; haveI : In zb w6 := ⟨lz⟩; have hG6 := hide ((hG4.out.trans hF5.out).trans hF6); clear hF6))
    | (go_at_call 7; have hq := lClock_c [ia] a ia X4 (by decide) w6 hA6.out; rw [cJ4] at hq; (with_reducible refine seq_gw hq ?_); intro g; clear hq)
    | (go_at_call 8; have hq := lHeld_c [ia] a ia X4 (by decide) (by decide +kernel) g.val (hA6.out.ext g.grown); rw [hJ4] at hq; (with_reducible refine seq_gw' hq ?_); intro g2; clear hq))
  go_returns
  exact ⟨by first | rfl | simp, (hG6.out.ext_of (fun b hb => by rw [List.mem_singleton.1 hb]; omega)).trans g2.grown⟩
end Go.Proofs.YtjmoifbajjemmaaGreat
