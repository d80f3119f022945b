/-
  A helper of ours: no claim of its own. Layer 28 (hop): the iterator of windows, where its consumer tells what it reads; where a function's value ends; how often a row belongs to a window.
-/
import Derived.Test.YtljkneajdndgjaaGreatHopA
import Derived.Deep.LoopGhost
import Derived.Test.YtljkneajdndgjaaGreatRx
import Derived.Sort.LoopGhostIn
import Derived.Test.YtljkneajdndgjaaGreatStepE
set_option linter.unusedVariables false
set_option linter.unusedSimpArgs false
namespace Go.Proofs.YtljkneajdndgjaaGreat
open Go.RowKit
attribute [local go_sem] GW.cell GW.frozen In.eq_true In.le_true In.ne In.ne' In.ne_add In.ne_add' In.lt_add Upto.le_true Upto.le_add Upto.lt_add
def hopE (s h t : Int) : Int := if hlen s = true ∧ hlen h = true then (if htick t = true then 0 else 13) else 2
def hopV (s h t : Int) : Int := if hlen s = true ∧ hlen h = true ∧ htick t = true then (if t = 1125899906842624 then 1125899906842624 else hbeg h (t - s + 1)) else 0
set_option maxHeartbeats 2000000 in
set_option maxRecDepth 100000 in
theorem hopen_c (s h t : Int) (w : World) : Calls Tryz.prog 33 #[.int .i64 s, .int .i64 h, .int .i64 t] w fun e w' => e = .returned (.tuple #[.int .i64 (hopV s h t), .int .i64 (hopE s h t)]) ∧ Ext w w' := by
  have h1 := hide (fun w => isLength_c s w)
  have h2 := hide (fun w => isLength_c h w)
  have h3 := hide (fun w => hisTick_c t w)
  cases a : hlen s
  · rw [a] at h1
    have e1 : hopE s h t = 2 := by unfold hopE; rw [a]; simp
    have e2 : hopV s h t = 0 := by unfold hopV; rw [a]; simp
    rw [e1, e2]
    clear a e1 e2
    go_enter Tryz.func33, Tryz.ntmps33
    go_wp2_with (go_at_call 85; (with_reducible refine seq_gw (h1.out _) ?_); intro g)
    go_returns
    exact ⟨rfl, g.grown⟩
  rw [a] at h1
  cases b : hlen h
  · rw [b] at h2
    have e1 : hopE s h t = 2 := by unfold hopE; rw [b]; simp
    have e2 : hopV s h t = 0 := by unfold hopV; rw [b]; simp
    rw [e1, e2]
    clear a b e1 e2
    go_enter Tryz.func33, Tryz.ntmps33
    go_wp2_with (go_at_call 85; first | ((with_reducible refine seq_gw (h1.out _) ?_); intro g) | ((with_reducible refine seq_gw' (h2.out _) ?_); intro g2) | ((with_reducible refine seq_gw (h2.out _) ?_); intro g2))
    go_returns
    exact ⟨rfl, g2.grown⟩
  rw [b] at h2
  cases c : htick t
  · rw [c] at h3
    have e1 : hopE s h t = 13 := by unfold hopE; rw [a, b, c]; simp
    have e2 : hopV s h t = 0 := by unfold hopV; rw [c]; simp
    rw [e1, e2]
    clear a b c e1 e2
    go_enter Tryz.func33, Tryz.ntmps33
    go_wp2_with (first
      | (go_at_call 85; first | ((with_reducible refine seq_gw (h1.out _) ?_); intro g) | ((with_reducible refine seq_gw' (h2.out _) ?_); intro g2) | ((with_reducible refine seq_gw (h2.out _) ?_); intro g2))
      | (go_at_call 86; first | ((with_reducible refine seq_gw' (h3.out _) ?_); intro g3) | ((with_reducible refine seq_gw (h3.out _) ?_); intro g3)))
    go_returns
    exact ⟨rfl, g3.grown⟩
  rw [c] at h3
  obtain ⟨s1, s2⟩ := hlen_iff.1 a
  obtain ⟨t1, t2⟩ := htick_iff.1 c
  have e1 : hopE s h t = 0 := by unfold hopE; rw [a, b, c]; simp
  by_cases ht : t = 1125899906842624
  · have e2 : hopV s h t = 1125899906842624 := by unfold hopV; rw [a, b, c, if_pos (by simp), if_pos ht]
    rw [e1, e2]
    clear a b c e1 e2
    subst ht
    go_enter Tryz.func33, Tryz.ntmps33
    go_wp2_with (first
      | (go_at_call 85; first | ((with_reducible refine seq_gw (h1.out _) ?_); intro g) | ((with_reducible refine seq_gw' (h2.out _) ?_); intro g2) | ((with_reducible refine seq_gw (h2.out _) ?_); intro g2))
      | (go_at_call 86; first | ((with_reducible refine seq_gw' (h3.out _) ?_); intro g3) | ((with_reducible refine seq_gw (h3.out _) ?_); intro g3)))
    go_returns
    exact ⟨rfl, g3.grown⟩
  · have e2 : hopV s h t = hbeg h (t - s + 1) := by unfold hopV; rw [a, b, c, if_pos (by simp), if_neg ht]
    rw [e1, e2]
    have h4 := hide (fun w => beginning_c h (t - s + 1) b (by omega) w)
    clear a b c e1 e2
    go_enter Tryz.func33, Tryz.ntmps33
    go_wp2_with (first
      | (go_at_call 85; first | ((with_reducible refine seq_gw (h1.out _) ?_); intro g) | ((with_reducible refine seq_gw' (h2.out _) ?_); intro g2) | ((with_reducible refine seq_gw (h2.out _) ?_); intro g2))
      | (go_at_call 86; first | ((with_reducible refine seq_gw' (h3.out _) ?_); intro g3) | ((with_reducible refine seq_gw (h3.out _) ?_); intro g3))
      | (go_at_call 87; first | ((with_reducible refine seq_gw' (h4.out _) ?_); intro g4) | ((with_reducible refine seq_gw (h4.out _) ?_); intro g4)))
    go_returns
    exact ⟨rfl, g4.grown⟩
end Go.Proofs.YtljkneajdndgjaaGreat
set_option linter.unusedVariables false
set_option linter.unusedSimpArgs false
namespace Go.Proofs.YtljkneajdndgjaaGreat
open Go.RowKit
attribute [local go_sem] GW.cell GW.frozen In.eq_true In.le_true In.ne In.ne' In.ne_add In.ne_add' In.lt_add Upto.le_true Upto.le_add Upto.lt_add Oper.semAt_some wide_depth wide_fn
/-- How many windows begin at a or later, ahead of e, each h behind the one ahead; and where. -/
def hN (h a e : Int) : Nat := if a < e then ((e - a - 1) / h + 1).toNat else 0
def hT (h a e : Int) : List Int := (List.range (hN h a e)).map fun i : Nat => a + (i : Int) * h
theorem hT_len (h a e : Int) : (hT h a e).length = hN h a e := by simp [hT]
theorem hT_at {h a e : Int} {i : Nat} (hi : i < hN h a e) : (hT h a e)[i]? = some (a + (i : Int) * h) := by
  unfold hT
  rw [List.getElem?_map, List.getElem?_range hi]
  rfl
theorem hN_lt {h a e : Int} (hh : 1 ≤ h) (i : Nat) : i < hN h a e ↔ a + (i : Int) * h < e := by
  unfold hN
  split
  · have e0 : 0 ≤ (e - a - 1) / h := Int.ediv_nonneg (by omega) (by omega)
    have k := Int.le_ediv_iff_mul_le (a := (i : Int)) (b := e - a - 1) (c := h) (by omega)
    omega
  · have : 0 ≤ (i : Int) * h := Int.mul_nonneg (by omega) (by omega)
    omega
/-- What is handed over for a window: where it begins. -/
def Hwin (t : Int) (vs : Array Value) (W : World) : Prop := vs = #[.int .i64 t]
set_option maxHeartbeats 8000000 in
set_option maxRecDepth 100000 in
theorem sharing_seq (X : List Nat) (s h f r a e : Int) (w0 w : World) (ba be bw : Nat) (hh : hlen h = true) (ha : 0 ≤ a ∧ a ≤ 1125899906842624) (he : e ≤ 1125899906842624) (hX : Ext w0 w) (oa : Ob w0 ba 3 [.int .i64 a]) (oe : Ob w0 be 3 [.int .i64 e]) (ow : Ob w0 bw 82 [.int .i64 s, .int .i64 h, .int .i64 f, .int .i64 r]) (xa : ba ∉ X) (xe : be ∉ X) (xw : bw ∉ X) :
    SeqsX Tryz.prog w0.heap.size X 144 #[.pointer (some ⟨ba, 0, none⟩), .pointer (some ⟨be, 0, none⟩), .pointer (some ⟨bw, 0, none⟩)] Hwin (hT h a e) w := by
  intro l J Jx W hW hJ hJx hY h0
  obtain ⟨h1, h2⟩ := hlen_iff.1 hh
  obtain ⟨a1, a2⟩ := ha
  have qa := ((oa.ext hX).ext hW).cell 0 rfl
  have la := ((oa.ext hX).ext hW).lt
  have oa' := hide oa
  have oe' := hide oe
  have ow' := hide ow
  have hz0 := hX.size
  have hz1 := hW.size
  have hXW := hide (hX.trans hW)
  have hJ' := hide hJ
  have hY' := hide hY
  have h0' := hide h0
  haveI : In ba W := ⟨la⟩
  clear hJ hY hX hW hJx h0 oa oe ow
  refine (callsIn_wide (n := 1)).1 ?_
  refine callsIn_of_wp Tryz.func144 rfl trivial ?_ rfl
  simp only [Tryz.ntmps144, List.size_toArray, List.length_cons, List.length_nil, Nat.reduceAdd, Nat.reduceSub, Array.replicate_succ, Array.replicate_zero, List.push_toArray, List.append_toArray, List.nil_append, List.cons_append]
  gi_wp2
  gi_loopg [5] (hN h a e) (fun gh t wr => ∃ (i : Nat) (P : Int), t = .int .i64 P ∧ Hid (a + (i : Int) * h = P) ∧ i + gh = hN h a e ∧ Hid (J i wr) ∧ Hid (BelX w0.heap.size X W wr))
  case atStart => exact ⟨0, a, rfl, by show _ = _; simp, by omega, h0', BelX.refl _ _ _⟩
  case round =>
    obtain ⟨i, P, rfl, hP, hi, hJk, hB⟩ := hrel
    clear h0' qa
    have oe2 : Ob wr be 3 [.int .i64 e] := (hB.out.block be oe'.out.lt xe).trans (oe'.out.ext hXW.out)
    have ow2 : Ob wr bw 82 [.int .i64 s, .int .i64 h, .int .i64 f, .int .i64 r] := (hB.out.block bw ow'.out.lt xw).trans (ow'.out.ext hXW.out)
    have qe := oe2.cell 0 rfl
    haveI : In be wr := ⟨oe2.lt⟩
    have hlt := hN_lt (a := a) (e := e) h1 i
    rw [hP.out] at hlt
    by_cases hk : P < e
    · have hil : i < hN h a e := hlt.2 hk
      have hat := hT_at hil
      rw [hP.out] at hat
      have hPa : a ≤ P := by rw [← hP.out]; have : 0 ≤ (i : Int) * h := Int.mul_nonneg (by omega) (by omega); omega
      have hPn := hide (show a + ((i + 1 : Nat) : Int) * h = P + h by rw [← hP.out]; rw [show ((i + 1 : Nat) : Int) = (i : Int) + 1 by omega, Int.add_mul, Int.one_mul]; omega)
      obtain ⟨fn, tmps, assign, body, hy, hRd⟩ := hY'.out i P #[.int .i64 P] wr hat hJk.out rfl
      replace hRd := hide hRd
      replace hat := hide hat
      clear hlt ow2 oe2
      gi_wp2
      refine hRd.out.mono ?_
      rintro ee W3 (⟨rfl, hJ3, hB3⟩ | ⟨rfl, hJx3⟩)
      · replace hJ3 := hide hJ3
        have hB6 := hide (hB.out.trans hB3)
        have ow3 : Ob W3 bw 82 [.int .i64 s, .int .i64 h, .int .i64 f, .int .i64 r] := (hB6.out.block bw ow'.out.lt xw).trans (ow'.out.ext hXW.out)
        have qh := ow3.cell 1 rfl
        haveI : In bw W3 := ⟨ow3.lt⟩
        clear hB3 ow3 qe
        gi_wp2
        gi_roundg (hN h a e - (i + 1))
        case measure => omega
        case rel => exact ⟨i + 1, P + h, by go_num, hPn.out, by omega, hJ3, hB6⟩
      · replace hJx3 := hide hJx3
        clear qe
        gi_wp2
        refine bodyPost_ret (results_none rfl _ _ _) rfl ?_
        exact ⟨⟨_, rfl⟩, .inr ⟨i + 1, by rw [hT_len]; omega, hJx3.out⟩⟩
    · have hil : i = hN h a e := by have := fun hh => hk (hlt.1 hh); omega
      have hJd := hide (show J (hT h a e).length wr by rw [hT_len, ← hil]; exact hJk.out)
      clear hlt hJk
      gi_wp2
      go_end0
      exact ⟨⟨_, rfl⟩, .inl hJd.out⟩
end Go.Proofs.YtljkneajdndgjaaGreat
set_option linter.unusedVariables false
set_option linter.unusedSimpArgs false
namespace Go.Proofs.YtljkneajdndgjaaGreat
open Go.RowKit
attribute [local go_sem] GW.cell GW.frozen In.eq_true In.le_true In.ne In.ne' In.ne_add In.ne_add' In.lt_add Upto.le_true Upto.le_add Upto.lt_add
abbrev winV (s h f r : Int) : Value := .agg #[.int .i64 s, .int .i64 h, .int .i64 f, .int .i64 r]
set_option maxHeartbeats 2000000 in
set_option maxRecDepth 100000 in
theorem haveLengths_c (s h f r : Int) (w : World) : Calls Tryz.prog 53 #[winV s h f r] w fun e w' => e = .returned (.bool (hlen s && hlen h)) ∧ Ext w w' := by
  have h1 := hide (fun w => isLength_c s w)
  have h2 := hide (fun w => isLength_c h w)
  cases a : hlen s
  · rw [a] at h1
    clear a
    go_enter Tryz.func53, Tryz.ntmps53
    go_wp2_with (go_at_call 85; first | ((with_reducible refine seq_gw' (h1.out _) ?_); intro g) | ((with_reducible refine seq_gw (h1.out _) ?_); intro g))
    go_returns
    exact ⟨rfl, ((Ext.refl w).alloc _).trans g.grown⟩
  · rw [a] at h1
    cases b : hlen h
    all_goals
      rw [b] at h2
      clear a b
      go_enter Tryz.func53, Tryz.ntmps53
      go_wp2_with (go_at_call 85; first | ((with_reducible refine seq_gw' (h1.out _) ?_); intro g) | ((with_reducible refine seq_gw (h1.out _) ?_); intro g) | ((with_reducible refine seq_gw' (h2.out _) ?_); intro g2) | ((with_reducible refine seq_gw (h2.out _) ?_); intro g2))
      go_returns
      exact ⟨rfl, ((Ext.refl w).alloc _).trans (by first | exact g2.grown | exact g.grown.trans g2.grown)⟩
set_option maxHeartbeats 2000000 in
set_option maxRecDepth 100000 in
theorem haveTicks_c (s h f r : Int) (w : World) : Calls Tryz.prog 55 #[winV s h f r] w fun e w' => e = .returned (.bool (htick f && htick r)) ∧ Ext w w' := by
  have h1 := hide (fun w => hisTick_c f w)
  have h2 := hide (fun w => hisTick_c r w)
  cases a : htick f
  · rw [a] at h1
    clear a
    go_enter Tryz.func55, Tryz.ntmps55
    go_wp2_with (go_at_call 86; first | ((with_reducible refine seq_gw' (h1.out _) ?_); intro g) | ((with_reducible refine seq_gw (h1.out _) ?_); intro g))
    go_returns
    exact ⟨rfl, ((Ext.refl w).alloc _).trans g.grown⟩
  · rw [a] at h1
    cases b : htick r
    all_goals
      rw [b] at h2
      clear a b
      go_enter Tryz.func55, Tryz.ntmps55
      go_wp2_with (go_at_call 86; first | ((with_reducible refine seq_gw' (h1.out _) ?_); intro g) | ((with_reducible refine seq_gw (h1.out _) ?_); intro g) | ((with_reducible refine seq_gw' (h2.out _) ?_); intro g2) | ((with_reducible refine seq_gw (h2.out _) ?_); intro g2))
      go_returns
      exact ⟨rfl, ((Ext.refl w).alloc _).trans (by first | exact g2.grown | exact g.grown.trans g2.grown)⟩
/-- Where the first window begins that may share a tick with a lifetime; where they end. -/
def hA (s h f lo : Int) : Int := hbeg h (if f ≤ lo - s + 1 then lo - s + 1 else f)
def hZ (r hi : Int) : Int := if r ≤ hi then r else hi
set_option maxHeartbeats 4000000 in
set_option maxRecDepth 100000 in
theorem sharing_c (s hp f r lo hi : Int) (hs : hlen s = true) (hh : hlen hp = true) (hf : htick f = true) (hr : htick r = true) (hlo : -1 ≤ lo) (hhi : lo < hi ∧ hi ≤ 1125899906842624) (w : World) : Calls Tryz.prog 104 #[winV s hp f r, .agg #[.int .i64 lo, .int .i64 hi]] w fun e w' => ∃ ba be bw, e = .returned (.func (.func 144) #[] #[.pointer (some ⟨ba, 0, none⟩), .pointer (some ⟨be, 0, none⟩), .pointer (some ⟨bw, 0, none⟩)]) ∧ Ob w' ba 3 [.int .i64 (hA s hp f lo)] ∧ Ob w' be 3 [.int .i64 (hZ r hi)] ∧ Ob w' bw 82 [.int .i64 s, .int .i64 hp, .int .i64 f, .int .i64 r] ∧ w.heap.size ≤ ba ∧ w.heap.size ≤ be ∧ w.heap.size ≤ bw ∧ Ext w w' := by
  obtain ⟨s1, s2⟩ := hlen_iff.1 hs
  obtain ⟨f1, f2⟩ := htick_iff.1 hf
  obtain ⟨r1, r2⟩ := htick_iff.1 hr
  obtain ⟨hi1, hi2⟩ := hhi
  unfold hA hZ
  have hb := hide (fun w => beginning_c hp (if f ≤ lo - s + 1 then lo - s + 1 else f) hh (by split <;> omega) w)
  rcases Int.lt_trichotomy f (lo - s + 1) with c1 | c1 | c1 <;> by_cases c2 : r ≤ hi
  all_goals
    try subst c1
    first | rw [if_pos (by omega)] at hb | rw [if_neg (by omega)] at hb
    first | rw [if_pos (show _ ≤ lo - s + 1 by omega)] | rw [if_neg (show ¬ _ ≤ lo - s + 1 by omega)]
    first | rw [if_pos c2] | rw [if_neg c2]
    generalize hbeg hp _ = A at *
    go_enter Tryz.func104, Tryz.ntmps104
    go_wp2_with (go_at_call 87; first | ((with_reducible refine seq_gw' (hb.out _) ?_); intro g) | ((with_reducible refine seq_gw (hb.out _) ?_); intro g))
    all_goals
      go_returns
      have hz := g.grown.size
      simp only [World.size_alloc] at hz
      refine ⟨_, _, _, rfl, (Ob.new g.val 3 [.int .i64 A]).alloc _, ?_, (((((Ob.new w 82 [.int .i64 s, .int .i64 hp, .int .i64 _, .int .i64 r]).alloc _).ext g.grown).alloc _).alloc _), by omega, by omega, by omega, (((((Ext.refl w).alloc _).alloc _).trans g.grown).alloc _).alloc _⟩
      have ho := Ob.new (g.val.alloc (.cells #[.int .i64 A] 3)) 3 [.int .i64 (if r ≤ hi then r else hi)]
      rw [World.size_alloc] at ho
      first | rw [if_pos (show r ≤ hi by omega)] at ho | rw [if_neg (show ¬ r ≤ hi by omega)] at ho
      first | exact ho | (have e9 : r = hi := by omega; subst e9; exact ho)
/-- A window that begins at a tick. -/
theorem hat_c (s h f r t : Int) (hs : hlen s = true) (ht : -1 ≤ t ∧ t ≤ 1125899906842624) (w : World) : Calls Tryz.prog 59 #[winV s h f r, .int .i64 t] w fun e w' => e = .returned (.agg #[.int .i64 t, .int .i64 (hend s t)]) ∧ Ext w w' := by
  obtain ⟨s1, s2⟩ := hlen_iff.1 hs
  obtain ⟨t1, t2⟩ := ht
  unfold hend
  by_cases c : 1125899906842624 < t + s
  all_goals
    first | rw [if_pos c] | rw [if_neg c]
    go_enter Tryz.func59, Tryz.ntmps59
    go_wp2_with fail
    all_goals
      go_returns
      exact ⟨by first | rfl | (simp; done) | (simp; omega), ((Ext.refl w).alloc _).alloc _⟩
end Go.Proofs.YtljkneajdndgjaaGreat
set_option linter.unusedVariables false
set_option linter.unusedSimpArgs false
namespace Go.Proofs.YtljkneajdndgjaaGreat
open Go.RowKit
attribute [local go_sem] GW.cell GW.frozen In.eq_true In.le_true In.ne In.ne' In.ne_add In.ne_add' In.lt_add Upto.le_true Upto.le_add Upto.lt_add Oper.semAt_some wide_depth wide_fn
/-- What the iterator of windows reads. -/
def KpW (s h f r a e : Int) (ba be bw : Nat) (A : World) : Prop := Ob A ba 3 [.int .i64 a] ∧ (Ob A be 3 [.int .i64 e] ∧ Ob A bw 82 [.int .i64 s, .int .i64 h, .int .i64 f, .int .i64 r])
theorem KpW.stab (B : Nat) (s h f r a e : Int) (ba be bw : Nat) : Stab B (KpW s h f r a e ba be bw) := (Stab.ob _ _ _).and ((Stab.ob _ _ _).and (Stab.ob _ _ _))
set_option maxHeartbeats 8000000 in
set_option maxRecDepth 100000 in
theorem sharing_seqk (s h f r a e : Int) (w : World) (ba be bw : Nat) (hh : hlen h = true) (ha : 0 ≤ a ∧ a ≤ 1125899906842624) (he : e ≤ 1125899906842624) :
    SeqsK (KpW s h f r a e ba be bw) Tryz.prog 144 #[.pointer (some ⟨ba, 0, none⟩), .pointer (some ⟨be, 0, none⟩), .pointer (some ⟨bw, 0, none⟩)] Hwin (hT h a e) w := by
  intro l J Jx W hW hJ hJx hCl hK hY h0
  obtain ⟨h1, h2⟩ := hlen_iff.1 hh
  obtain ⟨a1, a2⟩ := ha
  have hK0 := hK 0 W h0
  have qa := hK0.1.cell 0 rfl
  have la := hK0.1.lt
  have hK' := hide hK
  have hJ' := hide hJ
  have hY' := hide hY
  have h0' := hide h0
  haveI : In ba W := ⟨la⟩
  clear hJ hY hW hJx h0 hK hCl hK0
  refine (callsIn_wide (n := 1)).1 ?_
  refine callsIn_of_wp Tryz.func144 rfl trivial ?_ rfl
  simp only [Tryz.ntmps144, List.size_toArray, List.length_cons, List.length_nil, Nat.reduceAdd, Nat.reduceSub, Array.replicate_succ, Array.replicate_zero, List.push_toArray, List.append_toArray, List.nil_append, List.cons_append]
  gi_wp2
  gi_loopg [5] (hN h a e) (fun gh t wr => ∃ (i : Nat) (P : Int), t = .int .i64 P ∧ Hid (a + (i : Int) * h = P) ∧ i + gh = hN h a e ∧ Hid (J i wr))
  case atStart => exact ⟨0, a, rfl, by show _ = _; simp, by omega, h0'⟩
  case round =>
    obtain ⟨i, P, rfl, hP, hi, hJk⟩ := hrel
    clear h0' qa
    obtain ⟨-, oe2, ow2⟩ := hK'.out i wr hJk.out
    have qe := oe2.cell 0 rfl
    haveI : In be wr := ⟨oe2.lt⟩
    have hlt := hN_lt (a := a) (e := e) h1 i
    rw [hP.out] at hlt
    by_cases hk : P < e
    · have hil : i < hN h a e := hlt.2 hk
      have hat := hT_at hil
      rw [hP.out] at hat
      have hPa : a ≤ P := by rw [← hP.out]; have : 0 ≤ (i : Int) * h := Int.mul_nonneg (by omega) (by omega); omega
      have hPn := hide (show a + ((i + 1 : Nat) : Int) * h = P + h by rw [← hP.out]; rw [show ((i + 1 : Nat) : Int) = (i : Int) + 1 by omega, Int.add_mul, Int.one_mul]; omega)
      obtain ⟨fn, tmps, assign, body, hy, hRd⟩ := hY'.out i P #[.int .i64 P] wr hat hJk.out rfl
      replace hRd := hide hRd
      replace hat := hide hat
      clear hlt ow2 oe2
      gi_wp2
      refine hRd.out.mono ?_
      rintro ee W3 (⟨rfl, hJ3, -, -⟩ | ⟨rfl, hJx3, -⟩)
      · have ow3 := (hK'.out (i + 1) W3 hJ3).2.2
        replace hJ3 := hide hJ3
        have qh := ow3.cell 1 rfl
        haveI : In bw W3 := ⟨ow3.lt⟩
        clear ow3 qe
        gi_wp2
        gi_roundg (hN h a e - (i + 1))
        case measure => omega
        case rel => exact ⟨i + 1, P + h, by go_num, hPn.out, by omega, hJ3⟩
      · replace hJx3 := hide hJx3
        clear qe
        gi_wp2
        refine bodyPost_ret (results_none rfl _ _ _) rfl ?_
        exact ⟨⟨_, rfl⟩, .inr ⟨i + 1, by rw [hT_len]; omega, hJx3.out⟩⟩
    · have hil : i = hN h a e := by have := fun hh => hk (hlt.1 hh); omega
      have hJd := hide (show J (hT h a e).length wr by rw [hT_len, ← hil]; exact hJk.out)
      clear hlt hJk
      gi_wp2
      go_end0
      exact ⟨⟨_, rfl⟩, .inl hJd.out⟩
/-- Where the value that a function has from a jump on ends. -/
def hnxJ (J : List Jp) (i : Nat) : Int := (J[i + 1]?.map Prod.fst).getD 1125899906842624
set_option maxHeartbeats 4000000 in
set_option maxRecDepth 100000 in
theorem hnext_c (J : List Jp) (i : Nat) (hi : i < J.length) (hl : J.length ≤ 1000000) (v : Value) (w : World) (h : Jw w [] v J) : Calls Tryz.prog 148 #[v, .int .i64 i] w fun e w' => e = .returned (.int .i64 (hnxJ J i)) ∧ Ext w w' := by
  obtain ⟨A, cap, rfl, hlc, hlm, hat⟩ := jw_form h
  clear h
  unfold hnxJ
  by_cases hn : i + 1 = J.length
  · have e0 : J[i + 1]? = none := List.getElem?_eq_none (by omega)
    rw [e0]
    have hb : ((i : Int) + 1 == (J.length : Int)) = true := by simp; omega
    clear hat
    go_enter Tryz.func148, Tryz.ntmps148
    go_wp2_with fail
    all_goals
      go_returns
      exact ⟨rfl, Ext.refl _⟩
  · obtain ⟨⟨x, y⟩, hx⟩ : ∃ x, J[i + 1]? = some x := ⟨_, List.getElem?_eq_getElem (by omega)⟩
    obtain ⟨b, o, rfl, -, hb, c0, c1⟩ := hat _ _ hx
    rw [hx]
    have hbn : ((i : Int) + 1 == (J.length : Int)) = false := by simp; omega
    haveI : In b w := ⟨hb⟩
    have hlt : i + 1 < J.length := by omega
    simp only at c0
    clear hat hx hn
    go_enter Tryz.func148, Tryz.ntmps148
    go_wp2_with fail
    all_goals
      go_returns
      exact ⟨rfl, Ext.refl _⟩
/-- How often a row with a function belongs to a window. -/
def cpS (J : List Jp) (a b : Int) : Int := ((J.filter fun j => decide (a < j.1) && decide (j.1 < b)).map fun j => max j.2 0).sum
def copN (J : List Jp) (a b : Int) : Int := atV J a + cpS J a b
theorem cpS_snoc (J : List Jp) (j : Jp) (a b : Int) : cpS (J ++ [j]) a b = cpS J a b + (if a < j.1 ∧ j.1 < b then max j.2 0 else 0) := by
  unfold cpS
  rw [List.filter_append, List.map_append, List.sum_append]
  congr 1
  by_cases h : a < j.1 ∧ j.1 < b
  · rw [if_pos h, List.filter_cons_of_pos (by simp [h])]; simp
  · rw [if_neg h, List.filter_cons_of_neg (by simpa using h)]; simp
theorem cpS_next {J : List Jp} {k : Nat} {j : Jp} (h : J[k]? = some j) (a b : Int) : cpS (J.take (k + 1)) a b = cpS (J.take k) a b + (if a < j.1 ∧ j.1 < b then max j.2 0 else 0) := by
  rw [List.take_add_one, h]; exact cpS_snoc _ _ _ _
theorem cpS_in {J : List Jp} (hb : ∀ j ∈ J, -1048576 ≤ j.2 ∧ j.2 ≤ 1048576) (a b : Int) : ∀ k, k ≤ J.length → 0 ≤ cpS (J.take k) a b ∧ cpS (J.take k) a b ≤ 1048576 * k
  | 0, _ => by simp [cpS]
  | k + 1, hk => by
    obtain ⟨i1, i2⟩ := cpS_in hb a b k (by omega)
    have hx : J[k]? = some (J[k]'(by omega)) := List.getElem?_eq_getElem (by omega)
    have := hb _ (List.mem_of_getElem? hx)
    rw [cpS_next hx]
    split <;> constructor <;> omega
set_option maxHeartbeats 8000000 in
set_option maxRecDepth 100000 in
theorem hcopies_c (J : List Jp) (hm : mayJ J = true) (a b : Int) (v : Value) (w : World) (h : Jw w [] v J) : Calls Tryz.prog 108 #[v, .agg #[.int .i64 a, .int .i64 b]] w fun e w' => e = .returned (.int .i64 (copN J a b)) ∧ Ext w w' := by
  have hJl : J.length ≤ 1024 := mayJ_len hm
  have hjb := hide (mayJ_net hm)
  have hav := mayJ_jv hm a
  rw [← atV_of hm] at hav
  have hat := hide (fun w' (hX : Ext w w') => stepAt_c J a v w' (Sl.ext h hX))
  obtain ⟨A, cap, rfl, hlc, hlm, -⟩ := jw_form h
  have h' := hide h
  clear h
  obtain ⟨V, hV⟩ : ∃ V, V = atV J a := ⟨_, rfl⟩
  have hres : copN J a b = V + cpS J a b := by rw [hV]; rfl
  rw [hres]
  rw [← hV] at hat hav
  replace hV := hide hV
  clear hres
  have ob0 := Ob.new w 49 [.int .i64 a, .int .i64 b]
  have hX0 := hide ((Ext.refl w).alloc (.cells #[.int .i64 a, .int .i64 b] 49))
  have ob1 := hide ob0
  clear ob0
  go_enter Tryz.func108, Tryz.ntmps108
  go_wp2_with (go_at_call 119; (with_reducible refine seq_gw (hat.out _ hX0.out) ?_); intro g1)
  have hXg := hide (hX0.out.trans g1.grown)
  have obg := hide (ob1.out.ext g1.grown)
  go_loopg [5, 14] J.length (fun gh n i wr => ∃ (k : Nat), i = .int .i64 k ∧ n = .int .i64 (V + cpS (J.take k) a b) ∧ k + gh = J.length ∧ Hid (Ext g1.val wr))
  case atStart => exact ⟨0, by go_num, by simp [cpS], by omega, Ext.refl _⟩
  case round =>
    obtain ⟨k, rfl, rfl, hk, hX⟩ := hrel
    by_cases hlt : k < J.length
    · obtain ⟨⟨x, y⟩, hx⟩ : ∃ x, J[k]? = some x := ⟨_, List.getElem?_eq_getElem hlt⟩
      obtain ⟨A', cap', e', -, -, hatj⟩ := jw_form (Sl.ext h'.out (hXg.out.trans hX.out))
      simp only [Value.slice.injEq] at e'
      obtain ⟨rfl, -, rfl⟩ := e'
      obtain ⟨bj, o, rfl, -, hbl, c0, c1⟩ := hatj _ _ hx
      simp only at c0 c1
      have hnx := cpS_next hx a b
      have hin := cpS_in hjb.out a b k (by omega)
      have hy := hjb.out _ (List.mem_of_getElem? hx)
      simp only at hy hnx
      generalize cpS (J.take k) a b = S at *
      haveI : In bj wr := ⟨hbl⟩
      have obr := obg.out.ext hX.out
      have s0 := obr.cell 0 rfl
      have s1 := obr.cell 1 rfl
      have slt := obr.lt
      haveI : In w.heap.size wr := ⟨slt⟩
      clear hatj hx obr
      replace hnx := hide hnx
      by_cases c1' : a < x
      · by_cases c2' : x < b
        · have hnx2 := hide (show cpS (J.take (k + 1)) a b = S + max y 0 by rw [hnx.out, if_pos ⟨c1', c2'⟩])
          go_wp2_with fail
          all_goals
            go_roundg (J.length - (k + 1))
            case measure => omega
            case rel => exact ⟨k + 1, by go_num, by rw [hnx2.out]; first | rfl | (congr 1; omega) | go_num, by omega, hX.out.alloc _⟩
        · have hnx2 := hide (show cpS (J.take (k + 1)) a b = S by rw [hnx.out, if_neg (by omega)]; omega)
          go_wp2_with fail
          all_goals
            go_roundg (J.length - (k + 1))
            case measure => omega
            case rel => exact ⟨k + 1, by go_num, by rw [hnx2.out], by omega, hX.out.alloc _⟩
      · have hnx2 := hide (show cpS (J.take (k + 1)) a b = S by rw [hnx.out, if_neg (by omega)]; omega)
        go_wp2_with fail
        all_goals
          go_roundg (J.length - (k + 1))
          case measure => omega
          case rel => exact ⟨k + 1, by go_num, by rw [hnx2.out], by omega, hX.out.alloc _⟩
    · have hkl : k = J.length := by omega
      have hfin : J.take k = J := List.take_of_length_le (by omega)
      rw [hfin]
      go_wp2_with fail
      go_returns
      exact ⟨rfl, hXg.out.trans hX.out⟩
end Go.Proofs.YtljkneajdndgjaaGreat
