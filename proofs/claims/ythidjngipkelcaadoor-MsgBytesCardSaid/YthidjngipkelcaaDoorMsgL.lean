/-
  A helper of ours: no claim of its own. Layer 8 (msg): what must be whatever is asked.
-/
import Derived.Test.YthidjngipkelcaaDoorMsgT
import Derived.Test.YthidjngipkelcaaDoorValG
set_option linter.unusedVariables false
set_option linter.unusedSimpArgs false
namespace Go.Proofs.YthidjngipkelcaaDoor
open Go.RowKit
attribute [local go_sem] GW.cell GW.frozen In.eq_true In.le_true In.ne In.ne' In.ne_add In.ne_add' In.lt_add Upto.le_true Upto.le_add Upto.lt_add
theorem it1 : Lib.itoa 1 = [49] := by rw [show (1 : Int) = ((1 : Nat) : Int) from rfl, Lib.itoa_nonneg, Lib.decDigits_one (by decide)]; rfl
theorem it2 : Lib.itoa 2 = [50] := by rw [show (2 : Int) = ((2 : Nat) : Int) from rfl, Lib.itoa_nonneg, Lib.decDigits_one (by decide)]; rfl
theorem it5 : Lib.itoa 5 = [53] := by rw [show (5 : Int) = ((5 : Nat) : Int) from rfl, Lib.itoa_nonneg, Lib.decDigits_one (by decide)]; rfl
theorem it300 : Lib.itoa 300 = [51, 48, 48] := by rw [show (300 : Int) = ((300 : Nat) : Int) from rfl, Lib.itoa_nonneg, Lib.decDigits, dif_neg (by decide), Lib.decDigits_two (by decide) (by decide)]; rfl
def rOne : List Vl := [(1, 1, ⟨#[]⟩)]
abbrev oOne : Obj := .cells #[.int .i64 1, .int .i64 1, .string ⟨#[]⟩] 58
theorem rwOne (w : World) : Rw (w.alloc oOne) [] (.slice (some ⟨w.heap.size, 0, none⟩) 1 1) rOne := Sl.own (World.ownsRow_lit (base := w.heap.size) (e := 58) (size := 3) w #[.int .i64 1, .int .i64 1, .string ⟨#[]⟩] 1 (Nat.le_refl _) (by decide) rfl) (by simp)
theorem showOne (w : World) (ht : Tab w) : SV (fun _ => [49]) w (1, 1, ⟨#[]⟩) := by
  intro w' hX
  have h := vshow_c 1 1 ⟨#[]⟩ (by omega) w' (ht.ext hX)
  rw [showV_num rfl, it1] at h
  exact h
theorem mk0 : mchk 1 5 2 300 rOne = 0 := by decide +kernel
theorem mk13 : mchk 3 0 (-1) 0 [] = 13 := by decide +kernel
theorem ms2 : msync 1 5 2 300 rOne = 2 := by decide +kernel
theorem ms9 : msync 2 5 0 9 [] = 9 := by decide +kernel
theorem wordsOne : wordsT [⟨#[105, 110, 115, 101, 114, 116]⟩, dg 5, segT 2 300, ⟨#[40, 49, 41]⟩] = (⟨#[105, 110, 115, 101, 114, 116, 32, 53, 32, 91, 50, 44, 32, 51, 48, 48, 41, 32, 40, 49, 41]⟩ : ByteArray).data.toList := by
  unfold segT
  have e5 : dg 5 = ⟨#[53]⟩ := by unfold dg; rw [it5]
  have e2 : dg 2 = ⟨#[50]⟩ := by unfold dg; rw [it2]
  have e3 : dg 300 = ⟨#[51, 48, 48]⟩ := by unfold dg; rw [it300]
  rw [e5, e2, e3]
  decide +kernel
theorem showLive (v : Value) (w : World) (h : Rw w [] v rOne) (ht : Tab w) : Calls Tryd.prog 7 #[mg 1 5 2 300 v] w fun e w' => e = .returned (.string ⟨#[105, 110, 115, 101, 114, 116, 32, 53, 32, 91, 50, 44, 32, 51, 48, 48, 41, 32, 40, 49, 41]⟩) ∧ Ext w w' := by
  have h1 : ∀ w', Ext w w' → Calls Tryd.prog 24 #[v] w' fun e w'' => e = .returned (.string ⟨#[40, 49, 41]⟩) ∧ Ext w' w'' := by
    intro w' hX
    have h2 := rowShow_c (fun _ => [49]) rOne v w' (Sl.ext h hX) (by decide +kernel) (by intro x _; decide) (by
      intro x hx
      unfold rOne at hx
      simp only [List.mem_cons, List.not_mem_nil, or_false] at hx
      rcases hx with rfl
      exact showOne w' (ht.ext hX))
    have e : (⟨(rowT (fun _ => [49]) rOne).toArray⟩ : ByteArray) = ⟨#[40, 49, 41]⟩ := by decide +kernel
    rwa [e] at h2
  have h3 := showInsert_c 5 2 300 (by unfold inI; omega) (by unfold inI; omega) (by unfold inI; omega) rOne v ⟨#[40, 49, 41]⟩ (by decide) w h mk0 ht h1
  rw [wordsOne] at h3
  exact h3
set_option maxHeartbeats 8000000 in
set_option maxRecDepth 100000 in
theorem msgLive_c (w : World) (ht : Tab w) : Calls Tryd.prog 10 #[] w fun e w' => e = .returned (.bool true) ∧ Ext w w' := by
  have hb := hide (begin_c 5 2 300 rOne _ _ (rwOne w) (by decide))
  have he := hide (fun w => end_c 5 9 w)
  have hmk := hide (fun w => mark_c (-1) w)
  have hs9 := hide (fun w => sync_c 2 5 0 9 [] (.slice none 0 0) w (Sl.nil _ _ _))
  have hc13 := hide (fun w => check_c 3 0 (-1) 0 [] (.slice none 0 0) w (Sl.nil _ _ _))
  rw [ms9] at hs9
  rw [mk13] at hc13
  have htb := hide ht
  clear ht
  go_enter Tryd.func10, Tryd.ntmps10
  go_wp2_with (first
    | (go_at_call 31; refine hb.out.mono ?_; rintro ee w1 ⟨v1, rfl, ho1, hx1⟩; obtain ⟨A1, c1, rfl, -, -, -⟩ := rw_form ho1; obtain ⟨g1, rfl⟩ : ∃ g1 : GW (w.alloc oOne), w1 = g1.val := ⟨⟨_, hx1⟩, rfl⟩; have hX1 := hide (((Ext.refl w).alloc oOne).trans g1.grown); have hc0 := hide (fun w' (h : Ext g1.val w') => check_c 1 5 2 300 rOne _ w' (Sl.ext ho1 h)); rw [mk0] at hc0; have hs2 := hide (fun w' (h : Ext g1.val w') => sync_c 1 5 2 300 rOne _ w' (Sl.ext ho1 h)); rw [ms2] at hs2; have hsh := hide (fun w' (h : Ext g1.val w') => showLive _ w' (Sl.ext ho1 h) (htb.out.ext (hX1.out.trans h))); clear ho1)
    | (go_at_call 9; first | ((with_reducible refine seq_gw (hc0.out _ (by repeat (first | exact Ext.refl _ | with_reducible assumption | refine Ext.alloc ?_ _ | refine ext_gw ?_ _))) ?_); intro g) | ((with_reducible refine seq_gw' (hc13.out _) ?_); intro g))
    | (go_at_call 32; first | ((with_reducible refine seq_gw' (hs2.out _ (by repeat (first | exact Ext.refl _ | with_reducible assumption | refine Ext.alloc ?_ _ | refine ext_gw ?_ _))) ?_); intro g) | ((with_reducible refine seq_gw' (hs9.out _) ?_); intro g))
    | (go_at_call 33; (with_reducible refine seq_gw' (he.out _) ?_); intro g)
    | (go_at_call 34; (with_reducible refine seq_gw' (hmk.out _) ?_); intro g)
    | (go_at_call 7; (with_reducible refine seq_gw' (hsh.out _ (by repeat (first | exact Ext.refl _ | with_reducible assumption | refine Ext.alloc ?_ _ | refine ext_gw ?_ _))) ?_); intro g))
  go_returns
  exact ⟨rfl, hX1.out.trans (Ext.trans ((Ext.refl _).alloc _) g.grown)⟩
end Go.Proofs.YthidjngipkelcaaDoor
