/-
  A helper of ours: no claim of its own. Layer 28 (hop): where windows begin that share a tick with a lifetime, by the document.
-/
import Derived.Test.YtljkneajdndgjaaGreatHopM
import Derived.Test.YtljkneajdndgjaaGreatRfw
set_option linter.unusedVariables false
set_option linter.unusedSimpArgs false
namespace Go.Proofs.YtljkneajdndgjaaGreat
open Go.RowKit
attribute [local go_sem] GW.cell GW.frozen In.eq_true In.le_true In.ne In.ne' In.ne_add In.ne_add' In.lt_add Upto.le_true Upto.le_add Upto.lt_add
theorem tHop : ElemT Tryz.prog 78 3 (.int .i64 0) 1 8 := ElemT.mk' Tryz.underlying78 (by kernel_rfl) rfl (by omega)
/-- Where they begin; which error is told. -/
def hW (s h lo hi f r : Int) : List Int := hT h (hA s h f lo) (hZ r hi)
def hsE (s h lo hi f r : Int) : Int := if ¬ (hlen s = true ∧ hlen h = true) then 2 else if ¬ (htick f = true ∧ htick r = true) then 13 else if lo < -1 ∨ hi ≤ lo ∨ 1125899906842624 < hi then 14 else if 1024 < (hW s h lo hi f r).length then 7 else 0
def hsL (s h lo hi f r : Int) : List Int := if hsE s h lo hi f r = 0 then hW s h lo hi f r else []
abbrev ic1 (l : List Int) : List Value := l.map fun n => .int .i64 n
abbrev OwnI (w : World) (base : Nat) (v : Value) (l : List Int) : Prop := w.ownsRow base 3 1 v l.length (ic1 l)
/-- A first window that is not ahead of the end of time. -/
theorem hT_cap {h x e : Int} (hh : 1 ≤ h) (he : e ≤ 1125899906842624) : hT h (hbeg h x) e = hT h (hcnt h x * h) e := by
  unfold hbeg
  split
  · rfl
  · unfold hT hN
    rw [if_neg (by omega), if_neg (by omega)]
    rfl
theorem hT_take {h a e : Int} {m : Nat} (hm : m < hN h a e) : (hT h a e).take (m + 1) = (hT h a e).take m ++ [a + (m : Int) * h] := by
  rw [List.take_add_one, hT_at hm]
  rfl
set_option maxHeartbeats 8000000 in
set_option maxRecDepth 100000 in
theorem hrefStarts_c (s h lo hi f r : Int) (b1 : I64 lo) (b2 : I64 hi) (w : World) : Calls Tryz.prog 67 #[.int .i64 s, .int .i64 h, .agg #[.int .i64 lo, .int .i64 hi], .int .i64 f, .int .i64 r] w fun e w' => ∃ v, e = .returned (.tuple #[v, .int .i64 (hsE s h lo hi f r)]) ∧ OwnI w' w.heap.size v (hsL s h lo hi f r) ∧ Ext w w' := by
  obtain ⟨l1, l2⟩ := b1
  obtain ⟨i1, i2⟩ := b2
  have h1 := hide (fun w => hrefMay_c s h w)
  have h2 := hide (fun w => hrefTick_c f w)
  have h3 := hide (fun w => hrefTick_c r w)
  cases ab : (hlen s && hlen h)
  · rw [ab] at h1
    have e1 : hsE s h lo hi f r = 2 := by unfold hsE; rw [if_pos (by simpa using ab)]
    have e2 : hsL s h lo hi f r = [] := by unfold hsL; rw [e1, if_neg (by decide)]
    rw [e1, e2]
    clear ab e1 e2
    go_enter Tryz.func67, Tryz.ntmps67
    go_wp2_with (go_at_call 39; first | ((with_reducible refine seq_gw' (h1.out _) ?_); intro g) | ((with_reducible refine seq_gw (h1.out _) ?_); intro g))
    go_returns
    exact ⟨_, rfl, World.ownsRow_nil _ _ _ _, ((Ext.refl w).alloc _).trans g.grown⟩
  rw [ab] at h1
  rw [Bool.and_eq_true] at ab
  cases cf : htick f
  · rw [cf] at h2
    have e1 : hsE s h lo hi f r = 13 := by unfold hsE; rw [if_neg (fun e => e ab), if_pos (by rw [cf]; simp)]
    have e2 : hsL s h lo hi f r = [] := by unfold hsL; rw [e1, if_neg (by decide)]
    rw [e1, e2]
    clear ab cf e1 e2
    go_enter Tryz.func67, Tryz.ntmps67
    go_wp2_with (first
      | (go_at_call 39; first | ((with_reducible refine seq_gw' (h1.out _) ?_); intro g) | ((with_reducible refine seq_gw (h1.out _) ?_); intro g))
      | (go_at_call 63; first | ((with_reducible refine seq_gw' (h2.out _) ?_); intro g2) | ((with_reducible refine seq_gw (h2.out _) ?_); intro g2)))
    go_returns
    exact ⟨_, rfl, World.ownsRow_nil _ _ _ _, ((Ext.refl w).alloc _).trans (by first | exact g2.grown | exact g.grown.trans g2.grown)⟩
  rw [cf] at h2
  cases cr : htick r
  · rw [cr] at h3
    have e1 : hsE s h lo hi f r = 13 := by unfold hsE; rw [if_neg (fun e => e ab), if_pos (by rw [cr]; simp)]
    have e2 : hsL s h lo hi f r = [] := by unfold hsL; rw [e1, if_neg (by decide)]
    rw [e1, e2]
    clear ab cf cr e1 e2
    go_enter Tryz.func67, Tryz.ntmps67
    go_wp2_with (first
      | (go_at_call 39; first | ((with_reducible refine seq_gw' (h1.out _) ?_); intro g) | ((with_reducible refine seq_gw (h1.out _) ?_); intro g))
      | (go_at_call 63; first | ((with_reducible refine seq_gw' (h2.out _) ?_); intro g2) | ((with_reducible refine seq_gw (h2.out _) ?_); intro g2) | ((with_reducible refine seq_gw' (h3.out _) ?_); intro g3) | ((with_reducible refine seq_gw (h3.out _) ?_); intro g3)))
    go_returns
    exact ⟨_, rfl, World.ownsRow_nil _ _ _ _, ((Ext.refl w).alloc _).trans (by first | exact g3.grown | exact g2.grown.trans g3.grown)⟩
  rw [cr] at h3
  by_cases hsp : lo < -1 ∨ hi ≤ lo ∨ 1125899906842624 < hi
  · have e1 : hsE s h lo hi f r = 14 := by unfold hsE; rw [if_neg (fun e => e ab), if_neg (by rw [cf, cr]; simp), if_pos hsp]
    have e2 : hsL s h lo hi f r = [] := by unfold hsL; rw [e1, if_neg (by decide)]
    rw [e1, e2]
    clear ab cf cr e1 e2
    by_cases p1 : lo < -1 <;> by_cases p2 : hi ≤ lo <;> by_cases p3 : 1125899906842624 < hi
    all_goals first | (exfalso; omega) | skip
    all_goals
      go_enter Tryz.func67, Tryz.ntmps67
      go_wp2_with (first
        | (go_at_call 39; first | ((with_reducible refine seq_gw' (h1.out _) ?_); intro g) | ((with_reducible refine seq_gw (h1.out _) ?_); intro g))
        | (go_at_call 63; first | ((with_reducible refine seq_gw' (h2.out _) ?_); intro g2) | ((with_reducible refine seq_gw (h2.out _) ?_); intro g2) | ((with_reducible refine seq_gw' (h3.out _) ?_); intro g3) | ((with_reducible refine seq_gw (h3.out _) ?_); intro g3)))
      go_returns
      exact ⟨_, rfl, World.ownsRow_nil _ _ _ _, ((Ext.refl w).alloc _).trans (by first | exact g3.grown | exact g2.grown.trans g3.grown)⟩
  obtain ⟨s1, s2⟩ := hlen_iff.1 (Bool.and_eq_true _ _ ▸ ab : hlen s = true ∧ hlen h = true).1
  obtain ⟨k1, k2⟩ := hlen_iff.1 ab.2
  obtain ⟨f1, f2⟩ := htick_iff.1 cf
  obtain ⟨r1, r2⟩ := htick_iff.1 cr
  have p1 : ¬ lo < -1 := by omega
  have p2 : ¬ hi ≤ lo := by omega
  have p3 : ¬ 1125899906842624 < hi := by omega
  have e1 : hsE s h lo hi f r = if 1024 < (hW s h lo hi f r).length then 7 else 0 := by unfold hsE; rw [if_neg (fun e => e ab), if_neg (by rw [cf, cr]; simp), if_neg hsp]
  -- the first place, the end, the places
  obtain ⟨low, hlow⟩ : ∃ low, low = if lo - s < f then f else lo - s := ⟨_, rfl⟩
  obtain ⟨x, hx⟩ : ∃ x, x = if f ≤ lo - s + 1 then lo - s + 1 else f := ⟨_, rfl⟩
  obtain ⟨e, he⟩ : ∃ e, e = hZ r hi := ⟨_, rfl⟩
  have he' : e = if r ≤ hi then r else hi := he
  obtain ⟨a, ha⟩ : ∃ a, a = hcnt h x * h := ⟨_, rfl⟩
  obtain ⟨T, hT0⟩ : ∃ T, T = hT h a e := ⟨_, rfl⟩
  have hWT : hW s h lo hi f r = T := by
    rw [hT0, ha]
    unfold hW hA
    rw [← he, ← hx]
    exact hT_cap k1 (by rw [he']; split <;> omega)
  rw [hWT] at e1
  have e2 : hsL s h lo hi f r = if 1024 < T.length then [] else T := by
    unfold hsL
    rw [e1, hWT]
    by_cases c : 1024 < T.length
    · rw [if_pos c, if_pos c, if_neg (by decide)]
    · rw [if_neg c, if_neg c, if_pos rfl]
  rw [e1, e2]
  have hlow0 : 0 ≤ low ∧ low ≤ 1125899906842624 := by rw [hlow]; split <;> omega
  obtain ⟨Q, hQ⟩ : ∃ Q, Q = low / h := ⟨_, rfl⟩
  have hQd : low.tdiv h = Q := by rw [hQ]; exact Int.tdiv_eq_ediv_of_nonneg hlow0.1
  have hQ0 : 0 ≤ Q := by rw [hQ]; exact Int.ediv_nonneg (by omega) (by omega)
  have hQ1 : Q ≤ low := by rw [hQ]; exact Int.ediv_le_self _ (by omega)
  obtain ⟨t0, ht0⟩ : ∃ t0, Q * h = t0 := ⟨_, rfl⟩
  have hq1 := Int.mul_ediv_add_emod low h
  have hq2 := Int.emod_nonneg low (b := h) (by omega)
  have hq3 := Int.emod_lt_of_pos low (b := h) (by omega)
  rw [← hQ, Int.mul_comm, ht0] at hq1
  have ht1 : t0 ≤ low ∧ low < t0 + h ∧ 0 ≤ t0 := ⟨by omega, by omega, by rw [← ht0]; exact Int.mul_nonneg hQ0 (by omega)⟩
  obtain ⟨ci1, ci2, ci3, ci4⟩ := hcnt_in (h := h) (x := x) k1
  rw [← ha] at ci2 ci3
  have ha0 : 0 ≤ a := by rw [ha]; exact Int.mul_nonneg ci1 (by omega)
  have hxl : x ≤ low + 1 ∧ f ≤ x ∧ lo < x + s ∧ low ≤ x := by rw [hx, hlow]; constructor <;> split <;> split <;> omega
  have hfirst : (x ≤ t0 ∧ a = t0) ∨ (t0 < x ∧ a = t0 + h) := by
    have hm : ∀ u v : Int, u * h < v * h → u + 1 ≤ v := fun u v hv => Int.add_one_le_of_lt (Int.lt_of_mul_lt_mul_right hv (by omega))
    by_cases c : x ≤ t0
    · refine .inl ⟨c, ?_⟩
      by_cases cx : 0 < x
      · have := ci3 cx
        rcases Int.lt_trichotomy (hcnt h x) Q with q | q | q
        · have := hm (hcnt h x) Q (Int.mul_lt_mul_of_pos_right q (by omega)); exfalso; have h9 : (hcnt h x + 1) * h ≤ Q * h := Int.mul_le_mul_of_nonneg_right this (by omega); rw [Int.add_mul, Int.one_mul, ← ha, ht0] at h9; omega
        · rw [ha, q, ht0]
        · have h9 : (Q + 1) * h ≤ hcnt h x * h := Int.mul_le_mul_of_nonneg_right (by omega) (by omega); rw [Int.add_mul, Int.one_mul, ← ha, ht0] at h9; exfalso; omega
      · have h0 := ci4 (by omega)
        rw [h0, Int.zero_mul] at ha
        have : low = 0 := by omega
        omega
    · refine .inr ⟨by omega, ?_⟩
      have := ci3 (by omega)
      rcases Int.lt_trichotomy (hcnt h x) (Q + 1) with q | q | q
      · have h9 : hcnt h x * h ≤ Q * h := Int.mul_le_mul_of_nonneg_right (by omega) (by omega); rw [← ha, ht0] at h9; exfalso; omega
      · rw [ha, q, Int.add_mul, Int.one_mul, ht0]
      · have h9 : (Q + 1 + 1) * h ≤ hcnt h x * h := Int.mul_le_mul_of_nonneg_right (by omega) (by omega); rw [Int.add_mul, Int.add_mul, Int.one_mul, ← ha, ht0] at h9; exfalso; omega
  have hbox := Ob.new w 49 [.int .i64 lo, .int .i64 hi]
  have hbl := hbox.lt
  have hTe : ∀ m : Nat, m < T.length ↔ a + (m : Int) * h < e := fun m => by rw [hT0, hT_len]; exact hN_lt k1 m
  have hTt : ∀ m : Nat, m < T.length → T.take (m + 1) = T.take m ++ [a + (m : Int) * h] := fun m hm => by rw [hT0]; exact hT_take (by rw [← hT_len, ← hT0]; exact hm)
  replace hbox := hide hbox
  replace hTe := hide hTe
  replace hTt := hide hTt
  have hh0 : ¬ h = 0 := by omega
  replace hx := hide hx
  replace he' := hide he'
  replace hfirst := hide hfirst
  obtain ⟨EE, hEE⟩ : ∃ EE : Int, EE = if 1024 < T.length then 7 else 0 := ⟨_, rfl⟩
  obtain ⟨LL, hLL⟩ : ∃ LL : List Int, LL = if 1024 < T.length then [] else T := ⟨_, rfl⟩
  rw [← hEE, ← hLL]
  replace hEE := hide hEE
  replace hLL := hide hLL
  clear e1 e2 hWT hT0 ha ci1 ci2 ci3 ci4 hq1 hq2 hq3 hQ he hsp ab cf cr
  by_cases c0 : lo - s < f
  · rw [if_pos c0] at hlow
    rw [hlow] at hQd hlow0 hQ1 ht1 hxl
    clear hlow
    go_enter Tryz.func67, Tryz.ntmps67
    go_wp2_with (first
      | (go_at_call 39; first | ((with_reducible refine seq_gw' (h1.out _) ?_); intro g) | ((with_reducible refine seq_gw (h1.out _) ?_); intro g))
      | (go_at_call 63; first | ((with_reducible refine seq_gw' (h2.out _) ?_); intro g2) | ((with_reducible refine seq_gw (h2.out _) ?_); intro g2) | ((with_reducible refine seq_gw' (h3.out _) ?_); intro g3) | ((with_reducible refine seq_gw (h3.out _) ?_); intro g3)))
    have hg3 := hide (show Ext (w.alloc (.cells #[.int .i64 lo, .int .i64 hi] 49)) g3.val by first | exact g3.grown | exact g2.grown.trans g3.grown)
    have hs3 : w.heap.size ≤ g3.val.heap.size := by have := hg3.out.size; rw [World.size_alloc] at this; omega
    have hmade := hide (own_base (World.ownsRow_made (e := 3) (size := 1) g3.val #[] 0 (Nat.le_refl _) (Nat.zero_le _) rfl) hs3)
    obtain ⟨bx, ebx⟩ : ∃ bx, Hid (bx = w.heap.size) := ⟨_, rfl⟩
    have hbox2 := hide (show Ob (w.alloc (.cells #[.int .i64 lo, .int .i64 hi] 49)) bx 49 [.int .i64 lo, .int .i64 hi] by rw [ebx.out]; exact hbox.out)
    obtain ⟨hz, ehz⟩ : ∃ hz, Hid (hz = w.heap.size) := ⟨_, rfl⟩
    rw [← ebx.out] at hs3 hmade ⊢
    go_loopg [13, 14] 1026 (fun gh ov tv wr => ∃ (P : Int) (m : Nat), tv = .int .i64 P ∧ Hid (OwnI wr bx ov (T.take m)) ∧ ((m = 0 ∧ P = t0 ∧ t0 < x ∧ gh = 1026) ∨ (Hid (a + (m : Int) * h = P) ∧ 1025 ≤ m + gh ∧ m ≤ 1024 ∧ m ≤ T.length)) ∧ Hid (Ext w wr) ∧ Hid (Ob wr bx 49 [.int .i64 lo, .int .i64 hi]))
    case atStart =>
      exact ⟨t0, 0, rfl, hide (by rw [List.take_zero]; exact hmade.out), by
        rcases hfirst.out with ⟨c, c'⟩ | ⟨c, c'⟩
        · exact .inr ⟨by show _ = _; simp; omega, by omega, by omega, by omega⟩
        · exact .inl ⟨rfl, rfl, c, rfl⟩, (((Ext.refl w).alloc _).trans hg3.out).alloc _, (hbox2.out.ext hg3.out).alloc _⟩
    case round =>
      obtain ⟨P, m, rfl, ho, hph, hX, hO⟩ := hrel
      have hml : (T.take m).length ≤ m := by rw [List.length_take]; omega
      obtain ⟨OA, oc, rfl⟩ := own_form ho.out
      have q7 := hO.out.cell 0 rfl
      have q8 := hO.out.cell 1 rfl
      haveI : In bx wr := ⟨hO.out.lt⟩
      have hsz := hX.out.size
      rcases hph with ⟨rfl, rfl, htx, rfl⟩ | ⟨hP, hmg, hm1, hmT⟩
      · have hlen0 : (T.take 0).length = 0 := by simp
        have haF : Hid (a = P + h) := (show a = P + h by rcases hfirst.out with ⟨c, -⟩ | ⟨-, c⟩ <;> omega)
        have hE := hide (fun w => hrefEnd_c s P (by constructor <;> omega) w)
        by_cases q1 : P < r
        · by_cases q2 : P < hi
          · have q3 : P < 1125899906842624 := by omega
            have hst2 : f ≤ P → ¬ lo < hend s P := fun c => by
              unfold hend
              have : P + s ≤ lo := by
                have : ¬ x ≤ P := by omega
                rw [hx.out] at this
                split at this <;> omega
              rw [if_neg (by omega)]
              omega
            generalize hend s P = EP at *
            rw [hlen0] at *
            by_cases c1 : f ≤ P
            · have dc1 : decide (f ≤ P) = true := decide_eq_true c1
              have hst3 := hst2 c1
              clear hst2
              go_wp2_with fail
              refine wp_region_gw (by kernel_rfl) (by kernel_rfl) ?_
              repeat (go_big_quiet_step ((go_at_call 69; exact quiet_gw (hE.out _))))
              refine wpQuiet_nil ?_
              intro g5
              have eg : Ext wr g5.val := g5.grown
              have hO5 := hide (hO.out.ext eg)
              have ho5 := hide (own_ext ho.out eg)
              have hX5 := hide (hX.out.trans eg)
              have hs5 := hX5.out.size
              clear eg
              go_wp2_with fail
              go_roundg 1025
              case measure => omega
              case rel => exact ⟨a, 0, by rw [haF.out], ho5, .inr ⟨by show _ = _; simp, by omega, by omega, by omega⟩, hX5, hO5⟩
            · have dc1 : decide (f ≤ P) = false := decide_eq_false c1
              clear hst2
              go_wp2_with fail
              refine wp_region_gw (by kernel_rfl) (by kernel_rfl) ?_
              repeat (go_big_quiet_step ((go_at_call 69; exact quiet_gw (hE.out _))))
              refine wpQuiet_nil ?_
              intro g5
              have eg : Ext wr g5.val := g5.grown
              have hO5 := hide (hO.out.ext eg)
              have ho5 := hide (own_ext ho.out eg)
              have hX5 := hide (hX.out.trans eg)
              have hs5 := hX5.out.size
              clear eg
              go_wp2_with fail
              go_roundg 1025
              case measure => omega
              case rel => exact ⟨a, 0, by rw [haF.out], ho5, .inr ⟨by show _ = _; simp, by omega, by omega, by omega⟩, hX5, hO5⟩
          · try (exfalso; omega)
            all_goals
              have dq2 : decide (P < hi) = false := decide_eq_false q2
              have hTl : Hid (T.length = 0) := (show T.length = 0 by have h9 := (hTe.out 0).1; rcases Nat.eq_zero_or_pos T.length with h0 | h0; exact h0; exfalso; have h7 := haF.out; have h8 := h9 h0; simp at h8; rw [he'.out] at h8; split at h8 <;> omega)
              have hTm : Hid (T.take 0 = T) := (show T.take 0 = T by rw [List.length_eq_zero_iff.1 hTl.out]; rfl)
              go_wp2_with fail
              go_returns
              have hTf := hTl.out
              have e7 : EE = 0 := by rw [hEE.out, if_neg (show ¬ 1024 < T.length by omega)]
              have e8 : LL = T := by rw [hLL.out, if_neg (show ¬ 1024 < T.length by omega)]
              exact ⟨_, (by rw [e7] <;> rfl), (by rw [e8]; have h9 := ho.out; rw [hTm.out] at h9; rw [ebx.out, hTf] at h9; exact h9), hX.out⟩
        · have dq1 : decide (P < r) = false := decide_eq_false q1
          have hTl : Hid (T.length = 0) := (show T.length = 0 by have h9 := (hTe.out 0).1; rcases Nat.eq_zero_or_pos T.length with h0 | h0; exact h0; exfalso; have h7 := haF.out; have h8 := h9 h0; simp at h8; rw [he'.out] at h8; split at h8 <;> omega)
          have hTm : Hid (T.take 0 = T) := (show T.take 0 = T by rw [List.length_eq_zero_iff.1 hTl.out]; rfl)
          go_wp2_with fail
          go_returns
          have hTf := hTl.out
          have e7 : EE = 0 := by rw [hEE.out, if_neg (show ¬ 1024 < T.length by omega)]
          have e8 : LL = T := by rw [hLL.out, if_neg (show ¬ 1024 < T.length by omega)]
          exact ⟨_, (by rw [e7] <;> rfl), (by rw [e8]; have h9 := ho.out; rw [hTm.out] at h9; rw [ebx.out, hTf] at h9; exact h9), hX.out⟩
      · have hm0 : (0 : Int) ≤ (m : Int) * h := Int.mul_nonneg (by omega) (by omega)
        have hPa : a ≤ P := by have := hP.out; omega
        have hax : x ≤ a := by rcases hfirst.out with ⟨c, c'⟩ | ⟨c, c'⟩ <;> omega
        have hmlen : (T.take m).length = m := by rw [List.length_take]; omega
        have hoB := hide (show wr.ownsRow bx 3 1 (.slice OA m oc) m (ic1 (T.take m)) by have h9 := ho.out; unfold OwnI at h9; rw [hmlen] at h9; exact h9)
        rw [hmlen]
        have hTe1 := hide (hTe.out m)
        by_cases q1 : P < r
        · by_cases q2 : P < hi
          · have hmt : m < T.length := hTe1.out.2 (by rw [hP.out, he'.out]; split <;> omega)
            have hE := hide (fun w => hrefEnd_c s P (by constructor <;> omega) w)
            have hst : lo < hend s P := by unfold hend; split <;> omega
            have hfP : f ≤ P := by omega
            have q3 : P < 1125899906842624 := by omega
            generalize hend s P = EP at *
            have hnx := hide (show T.take (m + 1) = T.take m ++ [P] by rw [hTt.out m hmt, hP.out])
            have hPn := hide (show a + ((m + 1 : Nat) : Int) * h = P + h by rw [show ((m + 1 : Nat) : Int) = (m : Int) + 1 by omega, Int.add_mul, Int.one_mul]; have := hP.out; omega)
            replace hmlen := hide hmlen
            clear hTe1 hm0 ho hml
            by_cases c9 : 1024 < m + 1
            · have c9I : (1024 : Int) < (m : Int) + 1 := by omega
              go_wp2_with fail
              refine wp_region_gw (by kernel_rfl) (by kernel_rfl) ?_
              repeat (go_big_quiet_step ((go_at_call 69; exact quiet_gw (hE.out _))))
              refine wpQuiet_nil ?_
              intro g5
              have eg : Ext wr g5.val := g5.grown
              have hO5 := hide (hO.out.ext eg)
              have ho5 := hide (own_ext hoB.out eg)
              have hX5 := hide (hX.out.trans eg)
              have hs5 := hX5.out.size
              clear eg
              go_wp2_with (at_builtin; (refine wpl_app tHop rfl (.tmp 83) (.tmp 85) rfl rfl (own_ext ho5.out ((Ext.refl g5.val).alloc (.cells #[.int .i64 P] 3))) rfl (src_one Tryz.underlying78 g5.val (.int .i64 P) 3 rfl) (by unfold maxLen; omega) (by omega) (by simp only [World.size_alloc]; have := ebx.out; omega) ?_; intro v8 w8 ho8 hg8 hd8; replace hg8 : World.grownBy _ w8 (Value.slice OA m oc).ownBlock := hg8; have hX8 := hide (ext_grown (hX5.out.alloc (.cells #[.int .i64 P] 3)) hg8 (fun b hb => by have h9 := (hoB.out.lt b hb).1; rw [ebx.out] at h9; exact h9)); have hO8 := hide ((hO5.out.alloc (.cells #[.int .i64 P] 3)).grown hg8 (fun e9 => Ob.not_own hO.out hoB.out (by decide) e9.symm)); obtain ⟨A8, c8, q8⟩ := own_form ho8; subst q8; have hN8 := hide (show OwnI w8 bx (.slice A8 (m + 1) c8) (T.take (m + 1)) by rw [hnx.out]; unfold OwnI; rw [List.length_append, hmlen.out, List.length_singleton, ic1, List.map_append]; exact ho8); clear ho8 hg8 hd8))
              go_returns
              have e7 : EE = 7 := by rw [hEE.out, if_pos (show 1024 < T.length by omega)]
              have e8 : LL = [] := by rw [hLL.out, if_pos (show 1024 < T.length by omega)]
              exact ⟨_, (by rw [e7] <;> rfl), (by rw [e8]; exact World.ownsRow_nil _ _ _ _), hX8.out⟩
            · have c9I : ¬ (1024 : Int) < (m : Int) + 1 := by omega
              go_wp2_with fail
              refine wp_region_gw (by kernel_rfl) (by kernel_rfl) ?_
              repeat (go_big_quiet_step ((go_at_call 69; exact quiet_gw (hE.out _))))
              refine wpQuiet_nil ?_
              intro g5
              have eg : Ext wr g5.val := g5.grown
              have hO5 := hide (hO.out.ext eg)
              have ho5 := hide (own_ext hoB.out eg)
              have hX5 := hide (hX.out.trans eg)
              have hs5 := hX5.out.size
              clear eg
              go_wp2_with (at_builtin; (refine wpl_app tHop rfl (.tmp 83) (.tmp 85) rfl rfl (own_ext ho5.out ((Ext.refl g5.val).alloc (.cells #[.int .i64 P] 3))) rfl (src_one Tryz.underlying78 g5.val (.int .i64 P) 3 rfl) (by unfold maxLen; omega) (by omega) (by simp only [World.size_alloc]; have := ebx.out; omega) ?_; intro v8 w8 ho8 hg8 hd8; replace hg8 : World.grownBy _ w8 (Value.slice OA m oc).ownBlock := hg8; have hX8 := hide (ext_grown (hX5.out.alloc (.cells #[.int .i64 P] 3)) hg8 (fun b hb => by have h9 := (hoB.out.lt b hb).1; rw [ebx.out] at h9; exact h9)); have hO8 := hide ((hO5.out.alloc (.cells #[.int .i64 P] 3)).grown hg8 (fun e9 => Ob.not_own hO.out hoB.out (by decide) e9.symm)); obtain ⟨A8, c8, q8⟩ := own_form ho8; subst q8; have hN8 := hide (show OwnI w8 bx (.slice A8 (m + 1) c8) (T.take (m + 1)) by rw [hnx.out]; unfold OwnI; rw [List.length_append, hmlen.out, List.length_singleton, ic1, List.map_append]; exact ho8); clear ho8 hg8 hd8))
              go_roundg (gk - 1)
              case measure => omega
              case rel => exact ⟨P + h, m + 1, by go_num, hN8, .inr ⟨hPn, by omega, by omega, by omega⟩, hX8, hO8⟩
          · have hmE : Hid (m = T.length) := (show m = T.length by have h9 := hTe1.out.1; rcases Nat.lt_or_ge m T.length with h8 | h8; exact absurd (h9 h8) (by rw [hP.out, he'.out]; split <;> omega); omega)
            have hTm : Hid (T.take m = T) := List.take_of_length_le (by have := hmE.out; omega)
            replace hmlen := hide hmlen
            clear hTe1
            go_wp2_with fail
            go_returns
            have hTf := hmE.out
            have e7 : EE = 0 := by rw [hEE.out, if_neg (show ¬ 1024 < T.length by omega)]
            have e8 : LL = T := by rw [hLL.out, if_neg (show ¬ 1024 < T.length by omega)]
            exact ⟨_, (by rw [e7] <;> rfl), (by rw [e8]; have h9 := hoB.out; rw [hTm.out, ebx.out] at h9; unfold OwnI; rw [← hTf]; exact h9), hX.out⟩
        · have hmE : Hid (m = T.length) := (show m = T.length by have h9 := hTe1.out.1; rcases Nat.lt_or_ge m T.length with h8 | h8; exact absurd (h9 h8) (by rw [hP.out, he'.out]; split <;> omega); omega)
          have hTm : Hid (T.take m = T) := List.take_of_length_le (by have := hmE.out; omega)
          replace hmlen := hide hmlen
          clear hTe1
          go_wp2_with fail
          go_returns
          have hTf := hmE.out
          have e7 : EE = 0 := by rw [hEE.out, if_neg (show ¬ 1024 < T.length by omega)]
          have e8 : LL = T := by rw [hLL.out, if_neg (show ¬ 1024 < T.length by omega)]
          exact ⟨_, (by rw [e7] <;> rfl), (by rw [e8]; have h9 := hoB.out; rw [hTm.out, ebx.out] at h9; unfold OwnI; rw [← hTf]; exact h9), hX.out⟩
  · rw [if_neg c0] at hlow
    rw [hlow] at hQd hlow0 hQ1 ht1 hxl
    clear hlow
    go_enter Tryz.func67, Tryz.ntmps67
    go_wp2_with (first
      | (go_at_call 39; first | ((with_reducible refine seq_gw' (h1.out _) ?_); intro g) | ((with_reducible refine seq_gw (h1.out _) ?_); intro g))
      | (go_at_call 63; first | ((with_reducible refine seq_gw' (h2.out _) ?_); intro g2) | ((with_reducible refine seq_gw (h2.out _) ?_); intro g2) | ((with_reducible refine seq_gw' (h3.out _) ?_); intro g3) | ((with_reducible refine seq_gw (h3.out _) ?_); intro g3)))
    have hg3 := hide (show Ext (w.alloc (.cells #[.int .i64 lo, .int .i64 hi] 49)) g3.val by first | exact g3.grown | exact g2.grown.trans g3.grown)
    have hs3 : w.heap.size ≤ g3.val.heap.size := by have := hg3.out.size; rw [World.size_alloc] at this; omega
    have hmade := hide (own_base (World.ownsRow_made (e := 3) (size := 1) g3.val #[] 0 (Nat.le_refl _) (Nat.zero_le _) rfl) hs3)
    obtain ⟨bx, ebx⟩ : ∃ bx, Hid (bx = w.heap.size) := ⟨_, rfl⟩
    have hbox2 := hide (show Ob (w.alloc (.cells #[.int .i64 lo, .int .i64 hi] 49)) bx 49 [.int .i64 lo, .int .i64 hi] by rw [ebx.out]; exact hbox.out)
    obtain ⟨hz, ehz⟩ : ∃ hz, Hid (hz = w.heap.size) := ⟨_, rfl⟩
    rw [← ebx.out] at hs3 hmade ⊢
    go_loopg [13, 14] 1026 (fun gh ov tv wr => ∃ (P : Int) (m : Nat), tv = .int .i64 P ∧ Hid (OwnI wr bx ov (T.take m)) ∧ ((m = 0 ∧ P = t0 ∧ t0 < x ∧ gh = 1026) ∨ (Hid (a + (m : Int) * h = P) ∧ 1025 ≤ m + gh ∧ m ≤ 1024 ∧ m ≤ T.length)) ∧ Hid (Ext w wr) ∧ Hid (Ob wr bx 49 [.int .i64 lo, .int .i64 hi]))
    case atStart =>
      exact ⟨t0, 0, rfl, hide (by rw [List.take_zero]; exact hmade.out), by
        rcases hfirst.out with ⟨c, c'⟩ | ⟨c, c'⟩
        · exact .inr ⟨by show _ = _; simp; omega, by omega, by omega, by omega⟩
        · exact .inl ⟨rfl, rfl, c, rfl⟩, (((Ext.refl w).alloc _).trans hg3.out).alloc _, (hbox2.out.ext hg3.out).alloc _⟩
    case round =>
      obtain ⟨P, m, rfl, ho, hph, hX, hO⟩ := hrel
      have hml : (T.take m).length ≤ m := by rw [List.length_take]; omega
      obtain ⟨OA, oc, rfl⟩ := own_form ho.out
      have q7 := hO.out.cell 0 rfl
      have q8 := hO.out.cell 1 rfl
      haveI : In bx wr := ⟨hO.out.lt⟩
      have hsz := hX.out.size
      rcases hph with ⟨rfl, rfl, htx, rfl⟩ | ⟨hP, hmg, hm1, hmT⟩
      · have hlen0 : (T.take 0).length = 0 := by simp
        have haF : Hid (a = P + h) := (show a = P + h by rcases hfirst.out with ⟨c, -⟩ | ⟨-, c⟩ <;> omega)
        have hE := hide (fun w => hrefEnd_c s P (by constructor <;> omega) w)
        by_cases q1 : P < r
        · by_cases q2 : P < hi
          · have q3 : P < 1125899906842624 := by omega
            have hst2 : f ≤ P → ¬ lo < hend s P := fun c => by
              unfold hend
              have : P + s ≤ lo := by
                have : ¬ x ≤ P := by omega
                rw [hx.out] at this
                split at this <;> omega
              rw [if_neg (by omega)]
              omega
            generalize hend s P = EP at *
            rw [hlen0] at *
            by_cases c1 : f ≤ P
            · have dc1 : decide (f ≤ P) = true := decide_eq_true c1
              have hst3 := hst2 c1
              clear hst2
              go_wp2_with fail
              refine wp_region_gw (by kernel_rfl) (by kernel_rfl) ?_
              repeat (go_big_quiet_step ((go_at_call 69; exact quiet_gw (hE.out _))))
              refine wpQuiet_nil ?_
              intro g5
              have eg : Ext wr g5.val := g5.grown
              have hO5 := hide (hO.out.ext eg)
              have ho5 := hide (own_ext ho.out eg)
              have hX5 := hide (hX.out.trans eg)
              have hs5 := hX5.out.size
              clear eg
              go_wp2_with fail
              go_roundg 1025
              case measure => omega
              case rel => exact ⟨a, 0, by rw [haF.out], ho5, .inr ⟨by show _ = _; simp, by omega, by omega, by omega⟩, hX5, hO5⟩
            · have dc1 : decide (f ≤ P) = false := decide_eq_false c1
              clear hst2
              go_wp2_with fail
              refine wp_region_gw (by kernel_rfl) (by kernel_rfl) ?_
              repeat (go_big_quiet_step ((go_at_call 69; exact quiet_gw (hE.out _))))
              refine wpQuiet_nil ?_
              intro g5
              have eg : Ext wr g5.val := g5.grown
              have hO5 := hide (hO.out.ext eg)
              have ho5 := hide (own_ext ho.out eg)
              have hX5 := hide (hX.out.trans eg)
              have hs5 := hX5.out.size
              clear eg
              go_wp2_with fail
              go_roundg 1025
              case measure => omega
              case rel => exact ⟨a, 0, by rw [haF.out], ho5, .inr ⟨by show _ = _; simp, by omega, by omega, by omega⟩, hX5, hO5⟩
          · try (exfalso; omega)
            all_goals
              have dq2 : decide (P < hi) = false := decide_eq_false q2
              have hTl : Hid (T.length = 0) := (show T.length = 0 by have h9 := (hTe.out 0).1; rcases Nat.eq_zero_or_pos T.length with h0 | h0; exact h0; exfalso; have h7 := haF.out; have h8 := h9 h0; simp at h8; rw [he'.out] at h8; split at h8 <;> omega)
              have hTm : Hid (T.take 0 = T) := (show T.take 0 = T by rw [List.length_eq_zero_iff.1 hTl.out]; rfl)
              go_wp2_with fail
              go_returns
              have hTf := hTl.out
              have e7 : EE = 0 := by rw [hEE.out, if_neg (show ¬ 1024 < T.length by omega)]
              have e8 : LL = T := by rw [hLL.out, if_neg (show ¬ 1024 < T.length by omega)]
              exact ⟨_, (by rw [e7] <;> rfl), (by rw [e8]; have h9 := ho.out; rw [hTm.out] at h9; rw [ebx.out, hTf] at h9; exact h9), hX.out⟩
        · have dq1 : decide (P < r) = false := decide_eq_false q1
          have hTl : Hid (T.length = 0) := (show T.length = 0 by have h9 := (hTe.out 0).1; rcases Nat.eq_zero_or_pos T.length with h0 | h0; exact h0; exfalso; have h7 := haF.out; have h8 := h9 h0; simp at h8; rw [he'.out] at h8; split at h8 <;> omega)
          have hTm : Hid (T.take 0 = T) := (show T.take 0 = T by rw [List.length_eq_zero_iff.1 hTl.out]; rfl)
          go_wp2_with fail
          go_returns
          have hTf := hTl.out
          have e7 : EE = 0 := by rw [hEE.out, if_neg (show ¬ 1024 < T.length by omega)]
          have e8 : LL = T := by rw [hLL.out, if_neg (show ¬ 1024 < T.length by omega)]
          exact ⟨_, (by rw [e7] <;> rfl), (by rw [e8]; have h9 := ho.out; rw [hTm.out] at h9; rw [ebx.out, hTf] at h9; exact h9), hX.out⟩
      · have hm0 : (0 : Int) ≤ (m : Int) * h := Int.mul_nonneg (by omega) (by omega)
        have hPa : a ≤ P := by have := hP.out; omega
        have hax : x ≤ a := by rcases hfirst.out with ⟨c, c'⟩ | ⟨c, c'⟩ <;> omega
        have hmlen : (T.take m).length = m := by rw [List.length_take]; omega
        have hoB := hide (show wr.ownsRow bx 3 1 (.slice OA m oc) m (ic1 (T.take m)) by have h9 := ho.out; unfold OwnI at h9; rw [hmlen] at h9; exact h9)
        rw [hmlen]
        have hTe1 := hide (hTe.out m)
        by_cases q1 : P < r
        · by_cases q2 : P < hi
          · have hmt : m < T.length := hTe1.out.2 (by rw [hP.out, he'.out]; split <;> omega)
            have hE := hide (fun w => hrefEnd_c s P (by constructor <;> omega) w)
            have hst : lo < hend s P := by unfold hend; split <;> omega
            have hfP : f ≤ P := by omega
            have q3 : P < 1125899906842624 := by omega
            generalize hend s P = EP at *
            have hnx := hide (show T.take (m + 1) = T.take m ++ [P] by rw [hTt.out m hmt, hP.out])
            have hPn := hide (show a + ((m + 1 : Nat) : Int) * h = P + h by rw [show ((m + 1 : Nat) : Int) = (m : Int) + 1 by omega, Int.add_mul, Int.one_mul]; have := hP.out; omega)
            replace hmlen := hide hmlen
            clear hTe1 hm0 ho hml
            by_cases c9 : 1024 < m + 1
            · have c9I : (1024 : Int) < (m : Int) + 1 := by omega
              go_wp2_with fail
              refine wp_region_gw (by kernel_rfl) (by kernel_rfl) ?_
              repeat (go_big_quiet_step ((go_at_call 69; exact quiet_gw (hE.out _))))
              refine wpQuiet_nil ?_
              intro g5
              have eg : Ext wr g5.val := g5.grown
              have hO5 := hide (hO.out.ext eg)
              have ho5 := hide (own_ext hoB.out eg)
              have hX5 := hide (hX.out.trans eg)
              have hs5 := hX5.out.size
              clear eg
              go_wp2_with (at_builtin; (refine wpl_app tHop rfl (.tmp 83) (.tmp 85) rfl rfl (own_ext ho5.out ((Ext.refl g5.val).alloc (.cells #[.int .i64 P] 3))) rfl (src_one Tryz.underlying78 g5.val (.int .i64 P) 3 rfl) (by unfold maxLen; omega) (by omega) (by simp only [World.size_alloc]; have := ebx.out; omega) ?_; intro v8 w8 ho8 hg8 hd8; replace hg8 : World.grownBy _ w8 (Value.slice OA m oc).ownBlock := hg8; have hX8 := hide (ext_grown (hX5.out.alloc (.cells #[.int .i64 P] 3)) hg8 (fun b hb => by have h9 := (hoB.out.lt b hb).1; rw [ebx.out] at h9; exact h9)); have hO8 := hide ((hO5.out.alloc (.cells #[.int .i64 P] 3)).grown hg8 (fun e9 => Ob.not_own hO.out hoB.out (by decide) e9.symm)); obtain ⟨A8, c8, q8⟩ := own_form ho8; subst q8; have hN8 := hide (show OwnI w8 bx (.slice A8 (m + 1) c8) (T.take (m + 1)) by rw [hnx.out]; unfold OwnI; rw [List.length_append, hmlen.out, List.length_singleton, ic1, List.map_append]; exact ho8); clear ho8 hg8 hd8))
              go_returns
              have e7 : EE = 7 := by rw [hEE.out, if_pos (show 1024 < T.length by omega)]
              have e8 : LL = [] := by rw [hLL.out, if_pos (show 1024 < T.length by omega)]
              exact ⟨_, (by rw [e7] <;> rfl), (by rw [e8]; exact World.ownsRow_nil _ _ _ _), hX8.out⟩
            · have c9I : ¬ (1024 : Int) < (m : Int) + 1 := by omega
              go_wp2_with fail
              refine wp_region_gw (by kernel_rfl) (by kernel_rfl) ?_
              repeat (go_big_quiet_step ((go_at_call 69; exact quiet_gw (hE.out _))))
              refine wpQuiet_nil ?_
              intro g5
              have eg : Ext wr g5.val := g5.grown
              have hO5 := hide (hO.out.ext eg)
              have ho5 := hide (own_ext hoB.out eg)
              have hX5 := hide (hX.out.trans eg)
              have hs5 := hX5.out.size
              clear eg
              go_wp2_with (at_builtin; (refine wpl_app tHop rfl (.tmp 83) (.tmp 85) rfl rfl (own_ext ho5.out ((Ext.refl g5.val).alloc (.cells #[.int .i64 P] 3))) rfl (src_one Tryz.underlying78 g5.val (.int .i64 P) 3 rfl) (by unfold maxLen; omega) (by omega) (by simp only [World.size_alloc]; have := ebx.out; omega) ?_; intro v8 w8 ho8 hg8 hd8; replace hg8 : World.grownBy _ w8 (Value.slice OA m oc).ownBlock := hg8; have hX8 := hide (ext_grown (hX5.out.alloc (.cells #[.int .i64 P] 3)) hg8 (fun b hb => by have h9 := (hoB.out.lt b hb).1; rw [ebx.out] at h9; exact h9)); have hO8 := hide ((hO5.out.alloc (.cells #[.int .i64 P] 3)).grown hg8 (fun e9 => Ob.not_own hO.out hoB.out (by decide) e9.symm)); obtain ⟨A8, c8, q8⟩ := own_form ho8; subst q8; have hN8 := hide (show OwnI w8 bx (.slice A8 (m + 1) c8) (T.take (m + 1)) by rw [hnx.out]; unfold OwnI; rw [List.length_append, hmlen.out, List.length_singleton, ic1, List.map_append]; exact ho8); clear ho8 hg8 hd8))
              go_roundg (gk - 1)
              case measure => omega
              case rel => exact ⟨P + h, m + 1, by go_num, hN8, .inr ⟨hPn, by omega, by omega, by omega⟩, hX8, hO8⟩
          · have hmE : Hid (m = T.length) := (show m = T.length by have h9 := hTe1.out.1; rcases Nat.lt_or_ge m T.length with h8 | h8; exact absurd (h9 h8) (by rw [hP.out, he'.out]; split <;> omega); omega)
            have hTm : Hid (T.take m = T) := List.take_of_length_le (by have := hmE.out; omega)
            replace hmlen := hide hmlen
            clear hTe1
            go_wp2_with fail
            go_returns
            have hTf := hmE.out
            have e7 : EE = 0 := by rw [hEE.out, if_neg (show ¬ 1024 < T.length by omega)]
            have e8 : LL = T := by rw [hLL.out, if_neg (show ¬ 1024 < T.length by omega)]
            exact ⟨_, (by rw [e7] <;> rfl), (by rw [e8]; have h9 := hoB.out; rw [hTm.out, ebx.out] at h9; unfold OwnI; rw [← hTf]; exact h9), hX.out⟩
        · have hmE : Hid (m = T.length) := (show m = T.length by have h9 := hTe1.out.1; rcases Nat.lt_or_ge m T.length with h8 | h8; exact absurd (h9 h8) (by rw [hP.out, he'.out]; split <;> omega); omega)
          have hTm : Hid (T.take m = T) := List.take_of_length_le (by have := hmE.out; omega)
          replace hmlen := hide hmlen
          clear hTe1
          go_wp2_with fail
          go_returns
          have hTf := hmE.out
          have e7 : EE = 0 := by rw [hEE.out, if_neg (show ¬ 1024 < T.length by omega)]
          have e8 : LL = T := by rw [hLL.out, if_neg (show ¬ 1024 < T.length by omega)]
          exact ⟨_, (by rw [e7] <;> rfl), (by rw [e8]; have h9 := hoB.out; rw [hTm.out, ebx.out] at h9; unfold OwnI; rw [← hTf]; exact h9), hX.out⟩
end Go.Proofs.YtljkneajdndgjaaGreat
