/-
  A helper of ours: no claim of its own. Whole numbers up to 2^52 as float64: what is made of one is read as it, sums and differences that stay in that range are exact.
-/
import Derived.Test.YtoghgjgaolinaaaEdgF
import Derived.Test.YtoghgjgaolinaaaEdgB
import Derived.Lib.AppendZerosOnto
import Derived.Lib.LazyBuf
import Derived.WalkLawsBesides
import Derived.Laws.FloatArith
import Derived.Laws.ComplexArith
set_option linter.unusedVariables false
set_option linter.unusedSimpArgs false
namespace Go.Proofs.Ytoghgjgaolinaaa
open Go.RowKit
attribute [local go_sem] GW.cell GW.frozen In.eq_true In.le_true In.ne In.ne' In.ne_add In.ne_add' In.lt_add Upto.le_true Upto.le_add Upto.lt_add Oper.semAt_some wide_depth wide_fn
/-- A function that ranges over a function is left ahead of that. -/
theorem ret_plain {P : Program} {fn : Func} {R : Ending → World → Prop} {tmps : Array Value} {W : World} {v : Value} (hr : (results fn tmps).run P W = .ok v W) (hR : R (.returned v) W) :
    bodyPostM Fence.wide 0 P fn R .ret { tmps := tmps, defers := [] } W := ⟨v, hr, hR⟩
theorem all_rows (L : List Ve) : (eds L).all (fun e => mayR e.1) = L.all fun x => mayR x.2.1 := by rw [eds, List.all_map]; rfl
set_option maxHeartbeats 8000000 in
set_option maxRecDepth 100000 in
theorem edgeMay_c (L : List Ve) (v : Value) (w : World) (hC : Ew w [] v L) : Calls Try.prog 24 #[v] w fun e w' => e = .returned (.bool (mayE (eds L))) ∧ Ext w w' := by
  have h1 := hide (fun w' (hX : Ext w w') => containsERow_c L v w' (hC.ext hX))
  have h2 := hide (fun (hv : ∀ p ∈ L, mayR p.2.1 = true) w' (hX : Ext w w') => isSorted_c L hv v w' (hC.ext hX))
  obtain ⟨A, cap, rfl, hlc, hlm, -⟩ := ew_form hC
  unfold maxLen at hlm
  obtain ⟨R, hR⟩ : ∃ R, R = mayE (eds L) := ⟨_, rfl⟩
  rw [← hR]
  unfold mayE at hR
  rw [all_rows, List.length_map] at hR
  have ob0 : Ob (w.alloc (.cells #[.bool false] 4)) w.heap.size 4 [.bool false] := Ob.new w _ [.bool false]
  have hX0 : Ext w (w.alloc (.cells #[.bool false] 4)) := (Ext.refl w).alloc _
  have hnw : Hid (∀ k, k < w.heap.size + 1 → True) := fun _ _ => trivial
  refine calls_marks Try.func24 rfl ?_
  simp only [Try.ntmps24, List.size_toArray, List.length_cons, List.length_nil, Nat.reduceAdd, Nat.reduceSub, Array.replicate_succ, Array.replicate_zero, List.push_toArray, List.append_toArray, List.nil_append, List.cons_append]
  obtain ⟨Wb, hWb⟩ : ∃ Wb, Wb = w.alloc (.cells #[.bool false] 4) := ⟨_, rfl⟩
  rw [← hWb] at ob0 hX0
  have hWs : Wb.heap.size = w.heap.size + 1 := by rw [hWb]; simp
  have hX0h := hide hX0
  by_cases hl : 4096 < L.length
  · have hf := hide (show R = false by rw [hR, decide_eq_false (by omega), Bool.false_and])
    clear hR h1 h2
    go_wp2
    rw [← hWb]
    have q0 := ob0.cell 0 rfl
    exact ret_plain (v := .bool false) (by simp [results, Try.f24, go_sem, q0]) ⟨by rw [hf.out], hX0⟩
  have hlI : (L.length : Int) ≤ 4096 := by omega
  rw [decide_eq_true (by omega), Bool.true_and] at hR
  cases ha : L.all fun x => mayR x.2.1
  · rw [ha, Bool.false_and] at hR
    rw [ha] at h1
    replace hR := hide hR
    clear h2
    go_wp2_with (go_at_call 25; (with_reducible refine seq_gw (h1.out _ (by rw [← hWb]; exact hX0h.out)) ?_); intro g)
    have o2 : Ob (g.val.setCell ⟨w.heap.size, 0, none⟩ (.bool false)) w.heap.size 4 [.bool false] := ((hWb ▸ ob0).ext g.grown).set 0 _
    have q2 := o2.cell 0 rfl
    exact ret_plain (v := .bool false) (by simp [results, Try.f24, go_sem, q2]) ⟨by rw [hR.out], ((hWb ▸ hX0).trans g.grown).setCell (p := ⟨w.heap.size, 0, none⟩) (by simp) _⟩
  rw [ha, Bool.true_and] at hR
  rw [ha] at h1
  have hv : ∀ p ∈ L, mayR p.2.1 = true := fun p hp => List.all_eq_true.1 ha p hp
  have h3 := hide (h2.out hv)
  clear h2 ha
  cases hs : riseB (eds L)
  · rw [hs, Bool.false_and] at hR
    rw [hs] at h3
    replace hR := hide hR
    go_wp2_with (first | (go_at_call 25; (with_reducible refine seq_gw (h1.out _ (by rw [← hWb]; exact hX0h.out)) ?_); intro g) | (go_at_call 57; (with_reducible refine seq_gw' (h3.out _ ((by rw [← hWb]; exact hX0h.out : Ext w (w.alloc (.cells #[.bool false] 4))).trans g.grown)) ?_); intro g2))
    have o2 : Ob (g2.val.setCell ⟨w.heap.size, 0, none⟩ (.bool false)) w.heap.size 4 [.bool false] := ((hWb ▸ ob0).ext g2.grown).set 0 _
    have q2 := o2.cell 0 rfl
    exact ret_plain (v := .bool false) (by simp [results, Try.f24, go_sem, q2]) ⟨by rw [hR.out], ((hWb ▸ hX0).trans g2.grown).setCell (p := ⟨w.heap.size, 0, none⟩) (by simp) _⟩
  rw [hs, Bool.true_and] at hR
  rw [hs] at h3
  have hRf : Hid (∀ g ∈ grp (eds L), mayJ g.2 = false → R = false) := fun g hg h => by
    rw [hR, ← Bool.not_eq_true, List.all_eq_true]
    intro k
    have := k g hg
    rw [h] at this; cases this
  have hRt : Hid ((∀ g ∈ grp (eds L), mayJ g.2 = true) → R = true) := fun h => by rw [hR, List.all_eq_true]; exact h
  clear hR hs
  replace hv := hide hv
  replace hC := hide hC
  go_wp2_with (first | (go_at_call 25; (with_reducible refine seq_gw (h1.out _ (by rw [← hWb]; exact hX0h.out)) ?_); intro g) | (go_at_call 57; (with_reducible refine seq_gw' (h3.out _ ((by rw [← hWb]; exact hX0h.out : Ext w (w.alloc (.cells #[.bool false] 4))).trans g.grown)) ?_); intro g2) | (go_at_call 59; refine (functions_c _ _ _ _).mono ?_; rintro ee w1 ⟨b, rfl, hb, hle, hX1⟩))
  have hX2 := hide (((hWb ▸ hX0 : Ext w (w.alloc (.cells #[.bool false] 4))).trans g2.grown).trans hX1)
  have o1 : Ob w1 w.heap.size 4 [.bool false] := (((hWb ▸ ob0 : Ob (w.alloc (.cells #[.bool false] 4)) w.heap.size 4 [.bool false])).ext g2.grown).ext hX1
  have hz2 := hX2.out.size
  have hlw := o1.lt
  clear h1 h3 hX1 hle hWs hWb ob0 hX0 hX0h
  refine wp_range (xs := grp (eds L)) rfl (enters_of Try.func95 (by kernel_rfl) rfl) (functions_seq L _ w w1 b hC.out (by omega) hX2.out hb) (Ext.refl _) hX2.out.size (fun x vs W h => h.size) (fun x vs => Hg.stab x vs)
    (fun k W => Ob W w.heap.size 4 [.bool false] ∧ (Ext w W ∧ ∀ g ∈ (grp (eds L)).take k, mayJ g.2 = true))
    (fun c k W => ((c = .ret ∧ R = false) ∧ Ob W w.heap.size 4 [.bool false]) ∧ Ext w W)
    (fun k => (Stab.ob _ _ _).and ((Stab.of_ext hz2).and (Stab.pure _)))
    (fun c k => ((Stab.pure _).and (Stab.ob _ _ _)).and (Stab.of_ext hz2))
    ⟨o1, hX2.out, by simp⟩
    (fun k x vs a' _ => ∃ r f, vs = #[r, f] ∧ a' = { tmps := #[.slice A L.length cap, undef, .pointer (some ⟨w.heap.size, 0, none⟩), undef, f, .slice A L.length cap, .int .i64 L.length, .bool (decide ((4096 : Int) < L.length)), .bool (decide ((4096 : Int) < L.length)), .slice A L.length cap, .bool false, .bool (decide ((4096 : Int) < L.length)), .bool (decide ((4096 : Int) < L.length)), .slice A L.length cap, .bool true, .bool false, .bool (decide ((4096 : Int) < L.length)), .slice A L.length cap, .func (.func 95) #[] #[.pointer (some ⟨b, 0, none⟩)], r, f, undef, undef, undef], defers := [] })
    (fun k x vs a' => Stab.pure _) ?assign ?body ?done ?stop
  case assign =>
    rintro LL k x vs W K _ ⟨r, f, rfl, -, -⟩ hK
    gi_wp2
    exact hK _ _ (Ext.refl _) ⟨r, f, rfl, rfl⟩
  case body =>
    rintro LL k x vs a' W hx ⟨o0, hXw, hno⟩ ⟨r', f', e', hr, hf⟩ ⟨r, f, rfl, rfl⟩
    obtain ⟨rfl, rfl⟩ : r = r' ∧ f = f' := by simpa using e'
    obtain ⟨q, J⟩ := x
    have q0 := o0.cell 0 rfl
    have hfr := o0.free 0
    have hcall := hide (stepMay_c J f W hf)
    have hzW := hXw.size
    have hmem : ∀ y ∈ [w.heap.size], ∃ T vs, Ob W y T vs := by intro y hy; simp at hy; subst hy; exact ⟨_, _, o0⟩
    replace hmem := hide hmem
    have hltW := o0.lt
    have hgm : (q, J) ∈ grp (eds L) := List.mem_of_getElem? hx
    haveI : In w.heap.size W := ⟨hltW⟩
    obtain ⟨JA, jcap, rfl, -, -, -⟩ := jw_form hf
    cases hm : mayJ J
    · rw [hm] at hcall
      have hR0 := hide (hRf.out (q, J) hgm hm)
      clear hx hm hgm
      gi_wp2_with (gi_at_call 60; (with_reducible refine seq_gi hcall.out ?_); intro g)
      exact ⟨keeps_fr (S := [w.heap.size]) ((Fr.of_ext g.grown).setCell _ _ (.inl (by simp))) hmem.out, ⟨⟨rfl, hR0.out⟩, (o0.ext g.grown).set 0 _⟩, (hXw.trans g.grown).setCell (p := ⟨w.heap.size, 0, none⟩) (by simp) _⟩
    · rw [hm] at hcall
      have hno2 := hide (show ∀ g ∈ (grp (eds L)).take (k + 1), mayJ g.2 = true from fun g hg => by
        rw [List.take_add_one, hx] at hg
        rcases List.mem_append.1 hg with hg | hg
        · exact hno g hg
        · obtain rfl : g = (q, J) := by simpa using hg
          exact hm)
      clear hx hm hgm hno
      gi_wp2_with (gi_at_call 60; (with_reducible refine seq_gi hcall.out ?_); intro g)
      exact ⟨keeps_ext g.grown, below_fr (S := []) (Fr.of_ext g.grown) hzW (by simp), o0.ext g.grown, hXw.trans g.grown, hno2.out⟩
  case done =>
    rintro D W hD ⟨o0, hXw, hno⟩ hK
    rw [List.take_of_length_le (Nat.le_refl _)] at hno
    have hRf2 := hide (hRt.out hno)
    have q1 := o0.cell 0 rfl
    have hfr := o0.free 0
    clear hno
    go_wp2
    have hK2 := (KeepsOthers.setCell W ⟨w.heap.size, 0, none⟩ (.bool true)).same D _ hK rfl
    have o2 : Ob (W.setCell ⟨w.heap.size, 0, none⟩ (.bool true)) w.heap.size 4 [.bool true] := o0.set 0 _
    have q2 := (ob_put (o' := .deferred none) hK2 rfl o2).cell 0 rfl
    refine ret_mark hK2 (v := .bool true) ?_ ⟨by rw [hRf2.out], put_ext (hXw.setCell (p := ⟨w.heap.size, 0, none⟩) (by simp) _) (by omega) _⟩
    simp [results, Try.f24, go_sem, q2]
  case stop =>
    rintro D c k W hD hk ⟨⟨⟨rfl, hna⟩, o0⟩, hXw⟩ hK
    have hRf2 := hide hna
    go_wp2
    have q2 := (ob_put (o' := .deferred none) hK rfl o0).cell 0 rfl
    refine ret_mark hK (v := .bool false) ?_ ⟨by rw [hRf2.out], put_ext hXw (by omega) _⟩
    simp [results, Try.f24, go_sem, q2]

end Go.Proofs.Ytoghgjgaolinaaa
set_option linter.unusedVariables false
set_option linter.unusedSimpArgs false
namespace Go.Proofs.Ytoghgjgaolinaaa
open Go.RowKit
attribute [local go_sem] GW.cell GW.frozen In.eq_true In.le_true In.ne In.ne' In.ne_add In.ne_add' In.lt_add Upto.le_true Upto.le_add Upto.lt_add
end Go.Proofs.Ytoghgjgaolinaaa
set_option linter.unusedVariables false
namespace Go.Proofs.Ytoghgjgaolinaaa.Floats
open Ieee

/-- The word x stands for the whole number n. -/
def Rep (x : Nat) (n : Int) : Prop :=
  ∃ s M, ∃ d : Nat, double.read x = .number s M (-(d : Int)) ∧ d ≤ 1074 ∧ M = n.natAbs * 2 ^ d ∧ (n ≠ 0 → s = decide (n < 0))

theorem shl (a b : Nat) : a <<< b = a * 2 ^ b := Nat.shiftLeft_eq a b

theorem cut_exact (way : Toward) (neg : Bool) (k d : Nat) : way.cut neg (k * 2 ^ d) d = k := by
  unfold Toward.cut
  by_cases hk : k = 0
  · subst hk; cases way <;> simp [shl]
  · have hpos : 0 < 2 ^ d := Nat.two_pow_pos d
    have hle : 2 ^ d ≤ k * 2 ^ d := Nat.le_mul_of_pos_left _ (by omega)
    have hne : k * 2 ^ d ≠ 0 := by omega
    have hlog : d ≤ (k * 2 ^ d).log2 := (Nat.le_log2 hne).2 hle
    have hmin : min d ((k * 2 ^ d).log2 + 2) = d := by omega
    simp only [hmin, shl, Nat.one_mul, Nat.mul_div_cancel _ hpos, Nat.mul_mod_left]
    cases way <;> simp <;> omega

theorem cut_none (way : Toward) (neg : Bool) (k : Nat) : way.cut neg k 0 = k := by
  have := cut_exact way neg k 0
  simpa using this

theorem log2_mul_pow (a d : Nat) (ha : a ≠ 0) : (a * 2 ^ d).log2 = a.log2 + d := by
  have h1 := Nat.log2_self_le ha
  have h2 : a < 2 ^ (a.log2 + 1) := Nat.lt_log2_self
  have hne : a * 2 ^ d ≠ 0 := Nat.mul_ne_zero ha (Nat.pos_iff_ne_zero.1 (Nat.two_pow_pos d))
  refine Nat.le_antisymm ?_ ?_
  · have : a * 2 ^ d < 2 ^ (a.log2 + 1 + d) := by rw [Nat.pow_add 2 (a.log2 + 1) d]; exact Nat.mul_lt_mul_of_pos_right h2 (Nat.two_pow_pos d)
    have := (Nat.log2_lt hne).2 this
    omega
  · refine (Nat.le_log2 hne).2 ?_
    rw [Nat.pow_add]
    exact Nat.mul_le_mul_right _ h1

theorem rung_facts {B K r : Nat} (h1 : B ≤ K) (h2 : K < 2 * B) (hr : r ≤ 1074) : (r * B + K) % B = K - B ∧ (r * B + K) / B = r + 1 ∧ r * B + K < 2047 * B ∧ B ≤ r * B + K := by
  have hB : 0 < B := by omega
  obtain ⟨k, rfl⟩ : ∃ k, K = B + k := ⟨K - B, by omega⟩
  have e : r * B + (B + k) = k + B * (r + 1) := by rw [Nat.mul_add, Nat.mul_comm]; omega
  refine ⟨?_, ?_, ?_, by omega⟩
  · rw [e, Nat.add_mul_mod_self_left, Nat.mod_eq_of_lt (by omega)]; omega
  · rw [e, Nat.add_mul_div_left _ _ hB, Nat.div_eq_of_lt (by omega)]; omega
  · have := Nat.mul_le_mul_right B (show r + 2 ≤ 2047 by omega)
    rw [Nat.add_mul] at this
    omega
theorem word_mod {S q : Nat} (s : Bool) (h : q < S) : (if s then S + q else q) % S = q := by
  cases s
  · simp [Nat.mod_eq_of_lt h]
  · simp [Nat.add_mod_left, Nat.mod_eq_of_lt h]
theorem word_neg {S q : Nat} (s : Bool) (h : q < S) : ((if s then S + q else q) / S % 2 == 1) = s := by
  cases s
  · simp [Nat.div_eq_of_lt h]
  · have : (S + q) / S = 1 := by rw [Nat.add_div_left _ (by omega), Nat.div_eq_of_lt h]
    simp [this]

/-- What is written of a whole number (as a multiple of some small power of two) is read as it. -/
theorem rep_write (n : Int) (hn : n.natAbs ≤ 2 ^ 52) (d : Nat) (hd : d ≤ 1074) (s : Bool) (hs : n ≠ 0 → s = decide (n < 0)) :
    Rep (double.write (.number s (n.natAbs * 2 ^ d) (-(d : Int)))) n := by
  unfold Rep
  by_cases h0 : n = 0
  · subst h0
    have hz : ∀ k : Nat, 0 = (0 : Int).natAbs * 2 ^ k := fun k => by simp
    refine ⟨s, 0, 1074, ?_, Nat.le_refl _, (hz _ : _), fun h => absurd rfl h⟩
    simp only [Int.natAbs_zero, Nat.zero_mul, Format.write, Format.nearest, if_pos]
    cases s <;> decide +kernel
  · generalize ha : n.natAbs = a at hn
    have ha0 : a ≠ 0 := by omega
    have hlog := log2_mul_pow a d ha0
    have hl52 : a.log2 ≤ 52 := by
      rcases Nat.lt_or_ge 52 a.log2 with h | h
      · exact absurd ((Nat.le_log2 ha0).1 h) (by omega)
      · exact h
    have hm0 : a * 2 ^ d ≠ 0 := Nat.mul_ne_zero ha0 (Nat.pos_iff_ne_zero.1 (Nat.two_pow_pos d))
    have hK1 : 2 ^ 52 ≤ a * 2 ^ (52 - a.log2) := by
      have h1 := Nat.mul_le_mul_right (2 ^ (52 - a.log2)) (Nat.log2_self_le ha0)
      rw [← Nat.pow_add, show a.log2 + (52 - a.log2) = 52 by omega] at h1
      exact h1
    have hK2 : a * 2 ^ (52 - a.log2) < 2 ^ 53 := by
      have h2 : a < 2 ^ (a.log2 + 1) := Nat.lt_log2_self
      have h1 := Nat.mul_lt_mul_of_pos_right h2 (Nat.two_pow_pos (52 - a.log2))
      rw [← Nat.pow_add, show a.log2 + 1 + (52 - a.log2) = 53 by omega] at h1
      exact h1
    -- the last place that is kept
    have hlast : max (-(d : Int) + ((a * 2 ^ d).log2 : Int) - (double.fractionBits : Int)) double.leastPlace = -((52 - a.log2 : Nat) : Int) := by
      rw [hlog]
      show max (-(d : Int) + ((a.log2 + d : Nat) : Int) - ((52 : Nat) : Int)) (-1074) = _
      omega
    refine ⟨s, a * 2 ^ (52 - a.log2), 52 - a.log2, ?_, by omega, rfl, fun _ => hs h0⟩
    simp only [Format.write, Format.nearest]
    rw [if_neg hm0, hlast]
    have hkept : Toward.even.cut s ((a * 2 ^ d) <<< (-(d : Int) - -((52 - a.log2 : Nat) : Int)).toNat) (-((52 - a.log2 : Nat) : Int) - -(d : Int)).toNat = a * 2 ^ (52 - a.log2) := by
      rw [shl]
      rcases Nat.le_total d (52 - a.log2) with h | h
      · rw [show (-(d : Int) - -((52 - a.log2 : Nat) : Int)).toNat = (52 - a.log2) - d by omega, show (-((52 - a.log2 : Nat) : Int) - -(d : Int)).toNat = 0 by omega, cut_none, Nat.mul_assoc, ← Nat.pow_add, show d + (52 - a.log2 - d) = 52 - a.log2 by omega]
      · rw [show (-(d : Int) - -((52 - a.log2 : Nat) : Int)).toNat = 0 by omega, show (-((52 - a.log2 : Nat) : Int) - -(d : Int)).toNat = d - (52 - a.log2) by omega, Nat.pow_zero, Nat.mul_one]
        rw [show a * 2 ^ d = (a * 2 ^ (52 - a.log2)) * 2 ^ (d - (52 - a.log2)) by rw [Nat.mul_assoc, ← Nat.pow_add, show 52 - a.log2 + (d - (52 - a.log2)) = d by omega], cut_exact]
    rw [hkept]
    generalize hK : a * 2 ^ (52 - a.log2) = K at hK1 hK2 ⊢
    generalize hr : (-((52 - a.log2 : Nat) : Int) - double.leastPlace).toNat = r
    have hlp : double.leastPlace = -1074 := by decide +kernel
    have hr' : r = 1074 - (52 - a.log2) := by rw [← hr, hlp]; omega
    have hw : double.signWeight = 2048 * double.binade := by decide +kernel
    have hi : double.infRung = 2047 * double.binade := by decide +kernel
    have hb : double.binade = 2 ^ 52 := rfl
    have hk1 : double.binade ≤ K := by rw [hb]; exact hK1
    have hk2 : K < 2 * double.binade := by rw [hb, show 2 * 2 ^ 52 = 2 ^ 53 by decide]; exact hK2
    obtain ⟨e1, e2, e3, e4⟩ := rung_facts (r := r) hk1 hk2 (by omega)
    simp only [Format.read, Format.word, hi, hw]
    rw [Nat.min_eq_left (Nat.le_of_lt e3)]
    have hq : r * double.binade + K < 2048 * double.binade := Nat.lt_of_lt_of_le e3 (Nat.mul_le_mul_right _ (by omega))
    rw [word_mod s hq, word_neg s hq, if_neg (by omega), if_pos e3, e1, e2, hlp]
    have f1 : double.binade + (K - double.binade) = K := by omega
    have f2 : (-1074 : Int) + ((r + 1 - 1 : Nat) : Int) = -((52 - a.log2 : Nat) : Int) := by omega
    rw [f1, f2]

theorem rep_toInt {x : Nat} {n : Int} (h : Rep x n) : (double.read x).toInt .zero = some n := by
  obtain ⟨s, M, d, hr, hd, hM, hs⟩ := h
  rw [hr, hM]
  simp only [Datum.toInt, Datum.integral]
  rw [show (-(d : Int)).toNat = 0 by omega, show (- -(d : Int)).toNat = d by omega, shl, Nat.pow_zero, Nat.mul_one, cut_exact]
  simp only [signed, shl, Nat.pow_zero, Nat.mul_one, Option.some.injEq]
  by_cases h0 : n = 0
  · subst h0; simp
  · rw [hs h0]
    by_cases hneg : n < 0
    · simp only [hneg, decide_true, if_true]; omega
    · simp only [hneg, decide_false]; simp; omega

theorem signed_rep {n : Int} {s : Bool} {d b : Nat} (hs : n ≠ 0 → s = decide (n < 0)) (hdb : d ≤ b) :
    signed s (n.natAbs * 2 ^ d) (-(d : Int) - -(b : Int)).toNat = n * ((2 ^ b : Nat) : Int) := by
  unfold signed
  rw [show (-(d : Int) - -(b : Int)).toNat = b - d by omega, shl, Nat.mul_assoc, ← Nat.pow_add, show d + (b - d) = b by omega]
  by_cases h0 : n = 0
  · subst h0; simp
  · rw [hs h0]
    by_cases hneg : n < 0
    · simp only [hneg, decide_true, if_true]
      rw [Int.natCast_mul, show ((n.natAbs : Nat) : Int) = -n by omega, Int.neg_mul, Int.neg_neg]
    · simp only [hneg, decide_false]
      rw [if_neg (by simp), Int.natCast_mul, show ((n.natAbs : Nat) : Int) = n by omega]

theorem sum_rep {s t : Bool} {a b : Int} {d e : Nat} (hd : d ≤ 1074) (he : e ≤ 1074) (hs : a ≠ 0 → s = decide (a < 0)) (ht : b ≠ 0 → t = decide (b < 0)) (hab : (a + b).natAbs ≤ 2 ^ 52) :
    ∃ z, ((Datum.number s (a.natAbs * 2 ^ d) (-(d : Int))).sum (Datum.number t (b.natAbs * 2 ^ e) (-(e : Int)))).map double.write = some z ∧ Rep z (a + b) := by
  simp only [Datum.sum]
  have hbase : min (-(d : Int)) (-(e : Int)) = -((max d e : Nat) : Int) := by omega
  rw [hbase, signed_rep hs (by omega), signed_rep ht (by omega), ← Int.add_mul]
  have hp : 0 < ((2 ^ max d e : Nat) : Int) := by exact_mod_cast Nat.two_pow_pos _
  refine ⟨_, rfl, ?_⟩
  rw [Int.natAbs_mul, Int.natAbs_natCast]
  refine rep_write (a + b) hab _ (by omega) _ fun h0 => ?_
  rw [if_neg (by intro h; rcases Int.mul_eq_zero.1 h with h | h <;> omega)]
  congr 1
  refine propext ⟨fun h => ?_, fun h => ?_⟩
  · rcases Int.lt_or_le (a + b) 0 with h' | h'
    · exact h'
    · have := Int.mul_nonneg h' (Int.le_of_lt hp); omega
  · exact Int.mul_neg_of_neg_of_pos h hp

theorem add_rep {x y : Nat} {a b : Int} (hx : Rep x a) (hy : Rep y b) (hab : (a + b).natAbs ≤ 2 ^ 52) : ∃ z, floatBits .add .f64 x y = some z ∧ Rep z (a + b) := by
  obtain ⟨s, M, d, hr, hd, rfl, hs⟩ := hx
  obtain ⟨t, M', e, hr', he, rfl, ht⟩ := hy
  obtain ⟨z, hz, hz'⟩ := sum_rep hd he hs ht hab
  refine ⟨z, ?_, hz'⟩
  simp only [floatBits]
  show double.add x y = some z
  simp only [Format.add, hr, hr', hz]

theorem sub_rep {x y : Nat} {a b : Int} (hx : Rep x a) (hy : Rep y b) (hab : (a - b).natAbs ≤ 2 ^ 52) : ∃ z, floatBits .sub .f64 x y = some z ∧ Rep z (a - b) := by
  obtain ⟨s, M, d, hr, hd, rfl, hs⟩ := hx
  obtain ⟨t, M', e, hr', he, rfl, ht⟩ := hy
  have ht' : -b ≠ 0 → (!t) = decide (-b < 0) := fun h => by
    rw [ht (by omega)]
    by_cases hb : b < 0
    · simp only [hb, decide_true, Bool.not_true]; symm; simp; omega
    · simp only [hb, decide_false, Bool.not_false]; symm; simp; omega
  obtain ⟨z, hz, hz'⟩ := sum_rep (a := a) (b := -b) hd he hs ht' (by rw [← Int.sub_eq_add_neg]; exact hab)
  refine ⟨z, ?_, by rw [Int.sub_eq_add_neg]; exact hz'⟩
  simp only [floatBits]
  show double.sub x y = some z
  simp only [Format.sub, hr, hr', Datum.opposite]
  rw [Int.natAbs_neg] at hz
  exact hz

/-- 'float64(n)'. -/
theorem ofInt_rep (n : Int) (hn : n.natAbs ≤ 2 ^ 52) : Rep (floatOfInt .f64 n) n := by
  have := rep_write n hn 0 (by omega) (decide (n < 0)) (fun _ => rfl)
  rw [Nat.pow_zero, Nat.mul_one] at this
  exact this

/-- 'int(x)'. -/
theorem toInt_rep {x : Nat} {n : Int} (h : Rep x n) (hn : n.natAbs ≤ 2 ^ 52) : floatToIntVal .f64 x .i64 = some n := by
  unfold floatToIntVal
  rw [show FloatKind.f64.decode x = double.read x from rfl, rep_toInt h]
  have h1 : IntKind.i64.min = -9223372036854775808 := by decide +kernel
  have h2 : IntKind.i64.max = 9223372036854775807 := by decide +kernel
  simp only [h1, h2]
  rw [if_pos (by omega)]
end Go.Proofs.Ytoghgjgaolinaaa.Floats
