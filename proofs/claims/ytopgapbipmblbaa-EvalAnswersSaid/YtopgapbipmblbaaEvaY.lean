/-
  A helper of ours: no claim of its own. Layer 18 (eval): the document's Eval and Holds, in one contract each.
-/
import Derived.Test.YtopgapbipmblbaaEvaX
set_option linter.unusedVariables false
set_option linter.unusedSimpArgs false
namespace Go.Proofs.Ytopgapbipmblbaa
open Go.RowKit
attribute [local go_sem] GW.cell GW.frozen In.eq_true In.le_true In.ne In.ne' In.ne_add In.ne_add' In.lt_add Upto.le_true Upto.le_add Upto.lt_add
set_option maxHeartbeats 4000000 in
set_option maxRecDepth 100000 in
theorem refEval_c (l r : List Vl) (hri : ∀ v ∈ r, inW v) (hi : ∀ o ∈ l, inW o) (v rvv : Value) (w : World) (h : Rw w [] v l) (hrr : Rw w [] rvv r) :
    Calls Try.prog 17 #[v, rvv] w fun e w' => e = .returned (tupV (evX l r)) ∧ Ext w w' := by
  have hform := hide (fun w' (hX : Ext w w') => refForm_c l v w' (Sl.ext h hX))
  have hmay := hide (fun w' (hX : Ext w w') => refRowMay_c r rvv w' (Sl.ext hrr hX))
  by_cases hz : formE l = 0
  · cases hm : mayR r with
    | false =>
      have e : evX l r = ((0, 0, ⟨#[]⟩), 2) := by unfold evX; rw [if_pos hz, hm]; rfl
      rw [e]
      rw [hz] at hform
      rw [hm] at hmay
      clear h hrr hz hm e hi hri
      go_enter Try.func17, Try.ntmps17
      go_wp2_with (first | (go_at_call 26; (with_reducible refine seq_gw (hform.out _ ((Ext.refl w).alloc _)) ?_); intro g) | (go_at_call 39; (with_reducible refine seq_gw' (hmay.out _ (((Ext.refl w).alloc _).trans g.grown)) ?_); intro g2))
      go_returns
      refine ⟨rfl, ?_⟩
      repeat (first | exact Ext.refl _ | refine Ext.alloc ?_ _ | refine ext_gw ?_ _ | refine Ext.setCell ?_ (by first | (simp; done) | (simp [Upto.le_true, Upto.le_add]; done) | (simp; omega)) _)
    | true =>
      obtain ⟨t, hg, rfl, h64⟩ := formE_tree hz
      have hr : ∀ v ∈ r, fine v := fun v hv => ⟨(mayR_iff.1 hm).2 v hv, hri v hv⟩
      have hof := hide (fun w' (hX : Ext w w') => refOf_c r hr t hg (Tr.inw_of t hi) h64 v rvv w' (Sl.ext h hX) (Sl.ext hrr hX))
      rw [evX_tree hg h64 hm]
      rw [hz] at hform
      rw [hm] at hmay
      obtain ⟨Z, hZ⟩ : ∃ Z, Z = resX (evT (evF r) t) := ⟨_, rfl⟩
      replace hof := hide (show ∀ w', Ext w w' → Calls Try.prog 40 #[v, rvv] w' fun e w'' => e = .returned (tupV Z) ∧ Ext w' w'' by rw [hZ]; exact hof.out)
      rw [← hZ]
      obtain ⟨⟨zk, zn, zs⟩, ze⟩ := Z
      clear h hrr hz hm hi hri hr hZ
      go_enter Try.func17, Try.ntmps17
      go_wp2_with (first | (go_at_call 26; (with_reducible refine seq_gw (hform.out _ ((Ext.refl w).alloc _)) ?_); intro g) | (go_at_call 39; (with_reducible refine seq_gw' (hmay.out _ (((Ext.refl w).alloc _).trans g.grown)) ?_); intro g2) | (go_at_call 40; (with_reducible refine seq_gw' (hof.out _ (((Ext.refl w).alloc _).trans g2.grown)) ?_); intro g3))
      go_returns
      refine ⟨rfl, ?_⟩
      repeat (first | exact Ext.refl _ | refine Ext.alloc ?_ _ | refine ext_gw ?_ _ | refine Ext.setCell ?_ (by first | (simp; done) | (simp [Upto.le_true, Upto.le_add]; done) | (simp; omega)) _)
  · have e : evX l r = ((0, 0, ⟨#[]⟩), formE l) := by unfold evX; rw [if_neg hz]
    rw [e]
    have hzI : (formE l != 0) = true := by simpa using hz
    generalize formE l = E at *
    clear h hrr hz e hmay hi hri
    go_enter Try.func17, Try.ntmps17
    go_wp2_with (first | (go_at_call 26; (with_reducible refine seq_gw (hform.out _ ((Ext.refl w).alloc _)) ?_); intro g))
    go_returns
    refine ⟨rfl, ?_⟩
    repeat (first | exact Ext.refl _ | refine Ext.alloc ?_ _ | refine ext_gw ?_ _ | refine Ext.setCell ?_ (by first | (simp; done) | (simp [Upto.le_true, Upto.le_add]; done) | (simp; omega)) _)
set_option maxHeartbeats 4000000 in
set_option maxRecDepth 100000 in
theorem refHolds_c (l r : List Vl) (hri : ∀ v ∈ r, inW v) (hi : ∀ o ∈ l, inW o) (v rvv : Value) (w : World) (h : Rw w [] v l) (hrr : Rw w [] rvv r) :
    Calls Try.prog 19 #[v, rvv] w fun e w' => e = .returned (.tuple #[.bool (hoX l r).1, .int .i64 (hoX l r).2]) ∧ Ext w w' := by
  have hc := hide (fun w' (hX : Ext w w') => refEval_c l r hri hi v rvv w' (Sl.ext h hX) (Sl.ext hrr hX))
  clear h hrr hi hri
  unfold hoX
  obtain ⟨⟨⟨k, n, s⟩, z⟩, he⟩ : ∃ x, x = evX l r := ⟨_, rfl⟩
  rw [← he] at hc ⊢
  clear he
  replace hc := hide (show ∀ w', Ext w w' → Calls Try.prog 17 #[v, rvv] w' fun e w'' => e = .returned (.tuple #[val k n s, .int .i64 z]) ∧ Ext w' w'' from hc.out)
  dsimp only
  by_cases hz : z = 0
  · subst hz
    by_cases hk : k = 1
    · subst hk
      go_enter Try.func19, Try.ntmps19
      go_wp2_with (go_at_call 17; (with_reducible refine seq_gw (hc.out _ (by repeat (first | exact Ext.refl _ | refine Ext.alloc ?_ _))) ?_); intro g)
      go_returns
      refine ⟨?_, ?_⟩
      · simp
      · repeat (first | exact Ext.refl _ | refine Ext.drewN ?_ _ | refine Ext.alloc ?_ _ | refine Ext.trans ?_ g.grown | refine Ext.setCell ?_ (by simp) _)
    · have hk' : (k != 1) = true := by simpa using hk
      go_enter Try.func19, Try.ntmps19
      go_wp2_with (go_at_call 17; (with_reducible refine seq_gw (hc.out _ (by repeat (first | exact Ext.refl _ | refine Ext.alloc ?_ _))) ?_); intro g)
      go_returns
      refine ⟨?_, ?_⟩
      · simp [hk]
      · repeat (first | exact Ext.refl _ | refine Ext.drewN ?_ _ | refine Ext.alloc ?_ _ | refine Ext.trans ?_ g.grown | refine Ext.setCell ?_ (by simp) _)
  · have hz' : (z != 0) = true := by simpa using hz
    go_enter Try.func19, Try.ntmps19
    go_wp2_with (go_at_call 17; (with_reducible refine seq_gw (hc.out _ (by repeat (first | exact Ext.refl _ | refine Ext.alloc ?_ _))) ?_); intro g)
    go_returns
    refine ⟨?_, ?_⟩
    · simp [hz]
    · repeat (first | exact Ext.refl _ | refine Ext.drewN ?_ _ | refine Ext.alloc ?_ _ | refine Ext.trans ?_ g.grown | refine Ext.setCell ?_ (by simp) _)
end Go.Proofs.Ytopgapbipmblbaa
