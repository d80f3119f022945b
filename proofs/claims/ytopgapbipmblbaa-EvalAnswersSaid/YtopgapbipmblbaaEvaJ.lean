/-
  A helper of ours: no claim of its own. Layer 18 (eval): Eval and Holds by the code, in one contract each.
-/
import Derived.Test.YtopgapbipmblbaaEvaI
set_option linter.unusedVariables false
set_option linter.unusedSimpArgs false
namespace Go.Proofs.Ytopgapbipmblbaa
open Go.RowKit
attribute [-go_sem] sliced
attribute [local go_sem] sliced_eq
attribute [local go_sem] GW.cell GW.frozen In.eq_true In.le_true In.ne In.ne' In.ne_add In.ne_add' In.lt_add Upto.le_true Upto.le_add Upto.lt_add
/-- An expression's result for a row: the value, and the error. -/
def evX (l r : List Vl) : Vl × Int :=
  if formE l = 0 then (if mayR r then (match runX r l with
    | .ok u => (u, 0)
    | .error z => ((0, 0, ⟨#[]⟩), z)) else ((0, 0, ⟨#[]⟩), 2)) else ((0, 0, ⟨#[]⟩), formE l)
theorem runX_fine {l r : List Vl} {u : Vl} (hr : ∀ v ∈ r, fine v) (hi : ∀ o ∈ l, inW o) (hz : formE l = 0) (h : runX r l = .ok u) : fine u := by
  obtain ⟨t, hg, rfl, -⟩ := formE_tree hz
  rw [runX_tree hg] at h
  exact evT_fine hr t hg (Tr.inw_of t hi) u h
theorem eval_c (l r : List Vl) (hri : ∀ v ∈ r, inW v) (hi : ∀ o ∈ l, inW o) (v rvv : Value) (w : World) (h : Rw w [] v l) (hrr : Rw w [] rvv r) :
    Calls Try.prog 16 #[v, rvv] w fun e w' => e = .returned (.tuple #[val (evX l r).1.1 (evX l r).1.2.1 (evX l r).1.2.2, .int .i64 (evX l r).2]) ∧ Ext w w' := by
  unfold evX
  by_cases hz : formE l = 0
  · rw [if_pos hz]
    cases hm : mayR r with
    | false => exact eval_bad2 l r v rvv w h hrr hz hm
    | true =>
      have hr : ∀ v ∈ r, fine v := fun v hv => ⟨(mayR_iff.1 hm).2 v hv, hri v hv⟩
      cases hR : runX r l with
      | error z => exact eval_stop l r hr hi v rvv w h hrr hz hm z hR
      | ok u => exact eval_ok l r hr hi v rvv w h hrr hz hm u hR (runX_fine hr hi hz hR)
  · rw [if_neg hz]
    exact eval_bad1 l v rvv w h hz
def hoX (l r : List Vl) : Bool × Int :=
  if (evX l r).2 = 0 then (if (evX l r).1.1 = 1 then ((evX l r).1.2.1 != 0, 0) else (false, 12)) else (false, (evX l r).2)
set_option maxHeartbeats 4000000 in
set_option maxRecDepth 100000 in
theorem holds_c (l r : List Vl) (hri : ∀ v ∈ r, inW v) (hi : ∀ o ∈ l, inW o) (v rvv : Value) (w : World) (h : Rw w [] v l) (hrr : Rw w [] rvv r) :
    Calls Try.prog 18 #[v, rvv] w fun e w' => e = .returned (.tuple #[.bool (hoX l r).1, .int .i64 (hoX l r).2]) ∧ Ext w w' := by
  have hc := hide (fun w' (hX : Ext w w') => eval_c l r hri hi v rvv w' (Sl.ext h hX) (Sl.ext hrr hX))
  clear h hrr hi hri
  unfold hoX
  obtain ⟨⟨⟨k, n, s⟩, z⟩, he⟩ : ∃ x, x = evX l r := ⟨_, rfl⟩
  rw [← he] at hc ⊢
  clear he
  replace hc := hide (show ∀ w', Ext w w' → Calls Try.prog 16 #[v, rvv] w' fun e w'' => e = .returned (.tuple #[val k n s, .int .i64 z]) ∧ Ext w' w'' from hc.out)
  dsimp only
  by_cases hz : z = 0
  · subst hz
    by_cases hk : k = 1
    · subst hk
      go_enter Try.func18, Try.ntmps18
      go_wp2_with (go_at_call 16; (with_reducible refine seq_gw (hc.out _ (by repeat (first | exact Ext.refl _ | refine Ext.alloc ?_ _))) ?_); intro g)
      go_returns
      refine ⟨?_, ?_⟩
      · simp
      · repeat (first | exact Ext.refl _ | refine Ext.drewN ?_ _ | refine Ext.alloc ?_ _ | refine Ext.trans ?_ g.grown | refine Ext.setCell ?_ (by simp) _)
    · have hk' : (k != 1) = true := by simpa using hk
      go_enter Try.func18, Try.ntmps18
      go_wp2_with (go_at_call 16; (with_reducible refine seq_gw (hc.out _ (by repeat (first | exact Ext.refl _ | refine Ext.alloc ?_ _))) ?_); intro g)
      go_returns
      refine ⟨?_, ?_⟩
      · simp [hk]
      · repeat (first | exact Ext.refl _ | refine Ext.drewN ?_ _ | refine Ext.alloc ?_ _ | refine Ext.trans ?_ g.grown | refine Ext.setCell ?_ (by simp) _)
  · have hz' : (z != 0) = true := by simpa using hz
    go_enter Try.func18, Try.ntmps18
    go_wp2_with (go_at_call 16; (with_reducible refine seq_gw (hc.out _ (by repeat (first | exact Ext.refl _ | refine Ext.alloc ?_ _))) ?_); intro g)
    go_returns
    refine ⟨?_, ?_⟩
    · simp [hz]
    · repeat (first | exact Ext.refl _ | refine Ext.drewN ?_ _ | refine Ext.alloc ?_ _ | refine Ext.trans ?_ g.grown | refine Ext.setCell ?_ (by simp) _)
end Go.Proofs.Ytopgapbipmblbaa
