/-
  A helper of ours: no claim of its own. Layer 18 (eval): EvalTyped's walk; schema.Fits by the code alone (as SchI has it, which wants row.Show).
-/
import Derived.Test.YtopgapbipmblbaaEvaT
import Derived.Test.YtopgapbipmblbaaSchG
set_option linter.unusedVariables false
set_option linter.unusedSimpArgs false
namespace Go.Proofs.Ytopgapbipmblbaa
open Go.RowKit
attribute [local go_sem] GW.cell GW.frozen In.eq_true In.le_true In.ne In.ne' In.ne_add In.ne_add' In.lt_add Upto.le_true Upto.le_add Upto.lt_add
def fitsE (l : List Cl) (r : List Vl) : Bool := mayS l && (mayR r && eqP (fun (x : Cl) (y : Vl) => x.2 == y.1) l r)
set_option maxHeartbeats 2000000 in
theorem fitsE_c {l : List Cl} {m : List Vl} {v u : Value} {w : World} (hl : Cw w [] v l) (hm : Rw w [] u m) : Calls Try.prog 22 #[v, u] w fun e w' => e = .returned (.bool (fitsE l m)) ∧ Ext w w' := by
  have hl' := hl
  have hm' := hm
  have h1 := hide (mayS_c l v w hl)
  have h2 := hide (fun w' (hX : Ext w w') => rowMay_c m u w' (Sl.ext hm hX))
  obtain ⟨A, cap, rfl, hlc, hlm, -⟩ := cw_form hl
  obtain ⟨B, cap2, rfl, hmc, hmm, -⟩ := rw_form hm
  unfold fitsE
  cases ha : mayS l
  · rw [ha] at h1
    rw [Bool.false_and]
    clear ha hl hm hl' hm' h2
    go_enter Try.func22, Try.ntmps22
    go_wp2_with (go_at_call 41; (with_reducible refine seq_gw h1.out ?_); intro g)
    go_returns
    exact ⟨rfl, g.grown⟩
  cases hb : mayR m
  · rw [ha] at h1
    rw [hb] at h2
    rw [Bool.false_and, Bool.and_false]
    clear ha hb hl hm hl' hm'
    go_enter Try.func22, Try.ntmps22
    go_wp2_with (first | (go_at_call 41; (with_reducible refine seq_gw h1.out ?_); intro g) | (go_at_call 36; (with_reducible refine seq_gw' (h2.out _ g.grown) ?_); intro g2))
    go_returns
    exact ⟨rfl, g2.grown⟩
  rw [Bool.true_and, Bool.true_and]
  have he := hide (fun w' (hX : Ext w w') => equalFunc2_c (Sl.ext hl' hX) (Sl.ext hm' hX))
  rw [ha] at h1
  rw [hb] at h2
  generalize eqP (fun (x : Cl) (y : Vl) => x.2 == y.1) l m = R at *
  clear ha hb hl hm hl' hm'
  go_enter Try.func22, Try.ntmps22
  go_wp2_with (first | (go_at_call 41; (with_reducible refine seq_gw h1.out ?_); intro g) | (go_at_call 36; (with_reducible refine seq_gw' (h2.out _ g.grown) ?_); intro g2) | (go_at_call 43; (with_reducible refine seq_gw' (he.out _ g2.grown) ?_); intro g3))
  go_returns
  exact ⟨rfl, g3.grown⟩
theorem ev_typedE {s : List Cl} {l r : List Vl} (hri : ∀ v ∈ r, inW v) (hi : ∀ o ∈ l, inW o) (hc : exE (ckF s l) = 0) (hf : fitsE s r = true) :
    ((evX l r).2 = 0 ∧ (evX l r).1.1 = exK (ckF s l)) ∨ mild (evX l r).2 := by
  unfold fitsE at hf
  rw [Bool.and_eq_true, Bool.and_eq_true] at hf
  exact ev_typed hri hi hc hf.1 hf.2.1 hf.2.2
end Go.Proofs.Ytopgapbipmblbaa
