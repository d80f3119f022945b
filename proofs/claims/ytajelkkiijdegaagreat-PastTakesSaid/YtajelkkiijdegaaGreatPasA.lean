/-
  A helper of ours: no claim of its own. Layer 14 (past): the order of events, and the library's search, by the code.
-/
import Derived.Test.YtajelkkiijdegaaGreatRows
import Derived.Test.YtajelkkiijdegaaGreatPasS
import Derived.Test.YtajelkkiijdegaaGreatMem
import Derived.Handy
import Derived.BigQuiet
import Derived.Deep.LoopGhost
import Derived.WalkLawsBesides
set_option linter.unusedVariables false
set_option linter.unusedSimpArgs false
namespace Go.Proofs.YtajelkkiijdegaaGreat
open Go.RowKit
attribute [local go_sem] GW.cell GW.frozen In.eq_true In.le_true In.ne In.ne' In.ne_add In.ne_add' In.lt_add Upto.le_true Upto.le_add Upto.lt_add
def cmpP (a b : Int) : Int := if a < b then -1 else if b < a then 1 else 0
theorem pisNaN_c (a : Int) (w : World) : Calls Tryz.prog 158 #[.int .i64 a] w fun e w' => e = .returned (.bool false) ∧ Ext w w' := by
  go_enter Tryz.func158, Tryz.ntmps158
  go_wp2_with fail
  go_returns
  exact ⟨by first | rfl | simp, Ext.refl _⟩
set_option maxHeartbeats 1000000 in
theorem pcompare_c (a b : Int) (w : World) : Calls Tryz.prog 102 #[.int .i64 a, .int .i64 b] w fun e w' => e = .returned (.int .i64 (cmpP a b)) ∧ Ext w w' := by
  have h1 := hide (fun x w' => pisNaN_c x w')
  unfold cmpP
  by_cases hl : a < b
  · rw [if_pos hl]
    go_enter Tryz.func102, Tryz.ntmps102
    go_wp2_with (go_at_call 158; first | ((with_reducible refine seq_gw' (h1.out _ _) ?_); intro g) | ((with_reducible refine seq_gw (h1.out _ _) ?_); intro g))
    go_returns
    exact ⟨rfl, g.grown⟩
  · rw [if_neg hl]
    by_cases hr : b < a
    · rw [if_pos hr]
      go_enter Tryz.func102, Tryz.ntmps102
      go_wp2_with (go_at_call 158; first | ((with_reducible refine seq_gw' (h1.out _ _) ?_); intro g) | ((with_reducible refine seq_gw (h1.out _ _) ?_); intro g))
      go_returns
      exact ⟨rfl, g.grown⟩
    · rw [if_neg hr]
      go_enter Tryz.func102, Tryz.ntmps102
      go_wp2_with (go_at_call 158; first | ((with_reducible refine seq_gw' (h1.out _ _) ?_); intro g) | ((with_reducible refine seq_gw (h1.out _ _) ?_); intro g))
      go_returns
      exact ⟨rfl, g.grown⟩
def orP (x y : Int) : Int := if x = 0 then y else x
set_option maxHeartbeats 2000000 in
theorem por_c (x y : Int) (b : Nat) (w : World) (c0 : w.cell? ⟨b, 0, none⟩ = some (.int .i64 x)) (c1 : w.cell? ⟨b, 1, none⟩ = some (.int .i64 y)) : Calls Tryz.prog 240 #[.slice (some ⟨b, 0, none⟩) 2 2] w fun e w' => e = .returned (.int .i64 (orP x y)) ∧ Ext w w' := by
  have hR0 := hide (fun (h : ¬ x = 0) => (show orP x y = x by unfold orP; rw [if_neg h]))
  have hR1 := hide (fun (h : x = 0) => (show orP x y = y by unfold orP; rw [if_pos h]))
  generalize orP x y = R at *
  have c0h := hide c0
  have c1h := hide c1
  clear c0 c1
  go_enter Tryz.func240, Tryz.ntmps240
  go_wp2_with fail
  go_loopg [8] 2 (fun gh iv wr => ∃ (k : Nat), iv = .int .i64 k ∧ k + gh = 2 ∧ (0 < k → x = 0) ∧ (1 < k → y = 0) ∧ Ext w wr)
  case atStart => exact ⟨0, rfl, by omega, fun h => absurd h (by omega), fun h => absurd h (by omega), Ext.refl w⟩
  case round =>
    obtain ⟨k, rfl, hk, hx, hy, hX⟩ := hrel
    have k0 : wr.cell? ⟨b, 0, none⟩ = some (.int .i64 x) := (World.cell?_of_block (a := ⟨b, 0, none⟩) (hX.block b (block_lt_of_cell c0h.out))).trans c0h.out
    have k1 : wr.cell? ⟨b, 1, none⟩ = some (.int .i64 y) := (World.cell?_of_block (a := ⟨b, 1, none⟩) (hX.block b (block_lt_of_cell c1h.out))).trans c1h.out
    have hk3 : k = 0 ∨ k = 1 ∨ k = 2 := by omega
    rcases hk3 with rfl | rfl | rfl
    · by_cases h0 : x = 0
      · have hb : (x != 0) = false := by simp [h0]
        replace h0 := hide h0
        clear hx hy
        go_wp2_with fail
        go_roundg 1
        case measure => omega
        case rel => exact ⟨1, by go_num, by omega, fun _ => h0.out, fun h => absurd h (by omega), hX⟩
      · have hb : (x != 0) = true := by simp [h0]
        have hR := hide (hR0.out h0)
        replace h0 := hide h0
        clear hx hy
        go_wp2_with fail
        go_returns
        exact ⟨by rw [hR.out]; rfl, hX⟩
    · have hx0 := hide (hx (by omega))
      by_cases h0 : y = 0
      · have hb : (y != 0) = false := by simp [h0]
        replace h0 := hide h0
        clear hx hy
        go_wp2_with fail
        go_roundg 0
        case measure => omega
        case rel => exact ⟨2, by go_num, by omega, fun _ => hx0.out, fun _ => h0.out, hX⟩
      · have hb : (y != 0) = true := by simp [h0]
        have hR := hide (hR1.out hx0.out)
        replace h0 := hide h0
        clear hx hy
        go_wp2_with fail
        go_returns
        exact ⟨by rw [hR.out]; rfl, hX⟩
    · have hx0 := hide (hx (by omega))
      have hy0 := hide (hy (by omega))
      have hR := hide ((hR1.out hx0.out).trans hy0.out)
      clear hx hy
      go_wp2_with fail
      go_returns
      exact ⟨by rw [hR.out]; rfl, hX⟩
/-- An event, where it lies. -/
abbrev evC (p : Pb) : List Value := [.int .i64 (pId p), .int .i64 (pSer p), p.2.2, .int .i64 p.1.2.2.1, .int .i64 (pTo p)]
def Evb (w : World) (p : Pb) : Prop := Ob w p.2.1 109 (evC p)
theorem Evb.ext {w w' : World} {p : Pb} (h : Evb w p) (k : Ext w w') : Evb w' p := Ob.ext h k
def byP (p q : Pb) : Int := orP (cmpP (pTo p) (pTo q)) (cmpP (pSer p) (pSer q))
theorem byP_neg {p q : Pb} : byP p q < 0 ↔ befB p q = true := by
  rw [bef_iff]
  unfold byP orP
  rcases Int.lt_trichotomy (pTo p) (pTo q) with h | h | h
  · have e : cmpP (pTo p) (pTo q) = -1 := by unfold cmpP; rw [if_pos h]
    rw [e, if_neg (by decide)]; omega
  · have e : cmpP (pTo p) (pTo q) = 0 := by unfold cmpP; rw [if_neg (by omega), if_neg (by omega)]
    rw [e, if_pos rfl]
    unfold cmpP
    split
    · omega
    · split <;> omega
  · have e : cmpP (pTo p) (pTo q) = 1 := by unfold cmpP; rw [if_neg (by omega), if_pos h]
    rw [e, if_neg (by decide)]; omega
set_option maxHeartbeats 1000000 in
theorem bySerial_c (p q : Pb) (w : World) (hp : Evb w p) (hq : Evb w q) : Calls Tryz.prog 52 #[.pointer (some ⟨p.2.1, 0, none⟩), .pointer (some ⟨q.2.1, 0, none⟩)] w fun e w' => e = .returned (.int .i64 (cmpP (pSer p) (pSer q))) ∧ Ext w w' := by
  have a1 := Ob.cell hp 1 rfl
  have b1 := Ob.cell hq 1 rfl
  haveI : In p.2.1 w := ⟨Ob.lt hp⟩
  haveI : In q.2.1 w := ⟨Ob.lt hq⟩
  have hc := hide (fun w' => pcompare_c (pSer p) (pSer q) w')
  clear hp hq
  go_enter Tryz.func52, Tryz.ntmps52
  go_wp2_with fail
  refine wp_region_gw (by kernel_rfl) (by kernel_rfl) ?_
  repeat (go_big_quiet_step ((go_at_call 102; with_reducible exact quiet_gw (hc.out _))))
  refine wpQuiet_nil ?_
  intro g
  go_wp2_with fail
  go_returns
  exact ⟨rfl, g.grown⟩
set_option maxHeartbeats 2000000 in
theorem byEnd_c (p q : Pb) (w : World) (hp : Evb w p) (hq : Evb w q) : Calls Tryz.prog 203 #[.pointer (some ⟨p.2.1, 0, none⟩), .pointer (some ⟨q.2.1, 0, none⟩)] w fun e w' => e = .returned (.int .i64 (byP p q)) ∧ Ext w w' := by
  have a1 := Ob.cell hp 4 rfl
  have b1 := Ob.cell hq 4 rfl
  have hc := hide (fun w' => pcompare_c (pTo p) (pTo q) w')
  have hs := hide (fun w' (hX : Ext w w') => bySerial_c p q w' (hp.ext hX) (hq.ext hX))
  have hlp := Ob.lt hp
  have hlq := Ob.lt hq
  unfold byP
  haveI : In p.2.1 w := ⟨hlp⟩
  haveI : In q.2.1 w := ⟨hlq⟩
  generalize p.2.1 = bp at *
  generalize q.2.1 = bq at *
  generalize cmpP (pTo p) (pTo q) = x at *
  generalize cmpP (pSer p) (pSer q) = y at *
  generalize pTo p = tp at *
  generalize pTo q = tq at *
  clear hp hq
  go_enter Tryz.func203, Tryz.ntmps203
  go_wp2_with fail
  refine wp_region_gw_tail 14 (by kernel_rfl) (by kernel_rfl) ?_
  simp only [List.take_succ_cons, List.take_zero, List.drop_succ_cons, List.drop_zero]
  repeat (go_big_quiet_step (first | (go_at_call 102; with_reducible exact quiet_gw (hc.out _)) | (go_at_call 52; with_reducible exact quiet_gw (hs.out _ (GW.grown _)))))
  refine wpQuiet_nil ?_
  intro g
  have hor := hide (por_c x y g.val.heap.size (g.val.alloc (.cells #[.int .i64 x, .int .i64 y] 3)) ((Ob.new g.val 3 [.int .i64 x, .int .i64 y]).cell 0 rfl) ((Ob.new g.val 3 [.int .i64 x, .int .i64 y]).cell 1 rfl))
  go_wp2_with (go_at_call 240; (with_reducible refine seq_gw hor.out ?_); intro g2)
  go_returns
  exact ⟨rfl, (g.grown.alloc _).trans g2.grown⟩
/-- What the library's search finds. -/
def Fst (f : Nat → Bool) (n r : Nat) : Prop := r ≤ n ∧ (∀ i, i < r → f i = false) ∧ ∀ i, r ≤ i → i < n → f i = true
theorem phalf_is {i j : Nat} (h : i + j ≤ 4294967296) : IntKind.i64.wrap (IntKind.u64.wrap ((i : Int) + (j : Int)) / 2) = (((i + j) / 2 : Nat) : Int) := by
  rw [IntKind.wrap_i64, show IntKind.u64.wrap ((i : Int) + j) = ((i : Int) + j) % 18446744073709551616 by simp [IntKind.wrap, IntKind.bits, IntKind.signed]]
  omega
set_option maxHeartbeats 4000000 in
set_option maxRecDepth 100000 in
theorem search_c (gf : FuncId) (lb : Array Value) (n : Nat) (hn : n ≤ 1048576) (f : Nat → Bool) (hm : ∀ i j, i ≤ j → j < n → f i = true → f j = true) (w : World) (eg : ∀ args w, (callFunc gf args).run Tryz.prog w = .ok (.enter gf args) w)
    (hf : ∀ w', Ext w w' → ∀ i : Nat, i < n → Calls Tryz.prog gf (#[.int .i64 i] ++ lb) w' fun e w2 => e = .returned (.bool (f i)) ∧ Ext w' w2) :
    Calls Tryz.prog 198 #[.int .i64 n, .func (.func gf) #[] lb] w fun e w' => ∃ r : Nat, e = .returned (.int .i64 r) ∧ Fst f n r ∧ Ext w w' := by
  have hfh := hide hf
  have hmh := hide hm
  clear hf hm
  go_enter Tryz.func198, Tryz.ntmps198
  go_wp2_with fail
  go_loopg [5, 6] n (fun gh iv jv wr => ∃ (i j : Nat), iv = .int .i64 i ∧ jv = .int .i64 j ∧ i ≤ j ∧ j ≤ n ∧ j - i ≤ gh ∧ Hid (∀ t, t < i → f t = false) ∧ Hid (∀ t, j ≤ t → t < n → f t = true) ∧ Hid (Ext w wr))
  case atStart => exact ⟨0, n, rfl, rfl, by omega, by omega, by omega, (fun t ht => by omega), (fun t h1 h2 => by omega), Ext.refl w⟩
  case round =>
    obtain ⟨i, j, rfl, rfl, hij, hjl, hgh, h1, h2, hX⟩ := hrel
    by_cases hlt : i < j
    · have hltI : (i : Int) < j := by omega
      obtain ⟨h, hh⟩ : ∃ h, h = (i + j) / 2 := ⟨_, rfl⟩
      have hhl : h < n := by omega
      have hhj : h < j := by omega
      have hih : i ≤ h := by omega
      have hcp := hide (fun w' (hx : Ext wr w') => hfh.out w' (hX.out.trans hx) h hhl)
      have hhi : (h : Int) = ((i : Int) + j) / 2 := by omega
      have hws : IntKind.i64.wrap (IntKind.u64.wrap ((i : Int) + (j : Int)) / 2) = (h : Int) := by rw [hh]; exact phalf_is (by omega)
      have hup : f h = true → ∀ t, h ≤ t → t < n → f t = true := fun h3 t h4 h5 => hmh.out h t h4 h5 h3
      have hdn : f h = false → ∀ t, t < h + 1 → f t = false := fun h3 t h4 => by
        cases h5 : f t
        · rfl
        · have := hmh.out t h (by omega) hhl h5; rw [h3] at this; cases this
      have hh0 : (0 : Int) ≤ ((i : Int) + j) / 2 := by omega
      have hh9 : ((i : Int) + j) / 2 ≤ 1048576 := by omega
      rw [hhi] at hcp hws
      replace hh := hide hh
      replace hhi := hide hhi
      generalize f h = F at *
      cases F
      · have h1' := hide (hdn rfl)
        clear hup hdn
        go_wp2_with fail
        refine (hcp.out _ (Ext.refl _)).mono ?_
        rintro ee w2 ⟨rfl, hX2⟩
        replace hX2 := hide hX2
        go_wp2_with fail
        go_roundg (j - (h + 1))
        case measure => omega
        case rel => exact ⟨h + 1, j, by have := hhi.out; first | (congr 1; omega) | go_num, rfl, by omega, hjl, by omega, h1'.out, h2.out, hX.out.trans hX2.out⟩
      · have h2' := hide (hup rfl)
        clear hup hdn
        go_wp2_with fail
        refine (hcp.out _ (Ext.refl _)).mono ?_
        rintro ee w2 ⟨rfl, hX2⟩
        replace hX2 := hide hX2
        go_wp2_with fail
        go_roundg (h - i)
        case measure => omega
        case rel => exact ⟨i, h, rfl, by have := hhi.out; first | rfl | (congr 1; omega), by omega, by omega, by omega, h1.out, h2'.out, hX.out.trans hX2.out⟩
    · obtain rfl : i = j := by omega
      have hge : ¬ (i : Int) < i := by omega
      go_wp2_with fail
      go_returns
      exact ⟨_, rfl, ⟨hjl, h1.out, h2.out⟩, hX.out⟩
end Go.Proofs.YtajelkkiijdegaaGreat
