/-
  A helper of ours: no claim of its own. Layer 10 (edge): what is made of each row's jumps (edge.each).
-/
import Derived.Test.YtljkneajdndgjabGreatStepR
import Derived.Test.YtljkneajdndgjabGreatSort
import Derived.StillTail
import Derived.Lib.SliceRun
import Derived.Test.YtljkneajdndgjabGreatReg4
import Derived.Test.YtljkneajdndgjabGreatEdgM
import Derived.Test.YtljkneajdndgjabGreatEvaY
import Derived.Test.YtljkneajdndgjabGreatStepA
set_option linter.unusedVariables false
set_option linter.unusedSimpArgs false
namespace Go.Proofs.YtljkneajdndgjabGreat
open Go.RowKit
attribute [local go_sem] GW.cell GW.frozen In.eq_true In.le_true In.ne In.ne' In.ne_add In.ne_add' In.lt_add Upto.le_true Upto.le_add Upto.lt_add
end Go.Proofs.YtljkneajdndgjabGreat
set_option linter.unusedVariables false
set_option linter.unusedSimpArgs false
namespace Go.Proofs.YtljkneajdndgjabGreat
open Go.RowKit
attribute [local go_sem] GW.cell GW.frozen In.eq_true In.le_true In.ne In.ne' In.ne_add In.ne_add' In.lt_add Upto.le_true Upto.le_add Upto.lt_add
end Go.Proofs.YtljkneajdndgjabGreat
set_option linter.unusedVariables false
set_option linter.unusedSimpArgs false
namespace Go.Proofs.YtljkneajdndgjabGreat
open Go.RowKit
attribute [local go_sem] GW.cell GW.frozen In.eq_true In.le_true In.ne In.ne' In.ne_add In.ne_add' In.lt_add Upto.le_true Upto.le_add Upto.lt_add
end Go.Proofs.YtljkneajdndgjabGreat
set_option linter.unusedVariables false
set_option linter.unusedSimpArgs false
namespace Go.Proofs.YtljkneajdndgjabGreat
open Go.RowKit
attribute [local go_sem] GW.cell GW.frozen In.eq_true In.le_true In.ne In.ne' In.ne_add In.ne_add' In.lt_add Upto.le_true Upto.le_add Upto.lt_add
end Go.Proofs.YtljkneajdndgjabGreat
set_option linter.unusedVariables false
set_option linter.unusedSimpArgs false
namespace Go.Proofs.YtljkneajdndgjabGreat
open Go.RowKit
attribute [local go_sem] GW.cell GW.frozen In.eq_true In.le_true In.ne In.ne' In.ne_add In.ne_add' In.lt_add Upto.le_true Upto.le_add Upto.lt_add Oper.semAt_some wide_depth wide_fn
theorem evE_ok {op : List Jp → Int × List Jp} : ∀ {G : List Gp}, (∀ g ∈ G, (op g.2).1 = 0) → evE op G = 0
  | [], _ => rfl
  | g :: t, h => by rw [evE, if_pos (h g (by simp)), evE_ok fun x hx => h x (by simp [hx])]
theorem evE_bad {op : List Jp → Int × List Jp} : ∀ {G : List Gp} {k : Nat} {x : Gp}, (∀ g ∈ G.take k, (op g.2).1 = 0) → G[k]? = some x → (op x.2).1 ≠ 0 → evE op G = (op x.2).1
  | g :: t, 0, x, _, hx, h => by
    obtain rfl : g = x := by simpa using hx
    rw [evE, if_neg h]
  | g :: t, k + 1, x, hp, hx, h => by
    rw [evE, if_pos (hp g (by simp)), evE_bad (k := k) (fun y hy => hp y (by simp [hy])) (by simpa using hx) h]
theorem each_bad {op : List Jp → Int × List Jp} {G : List Gp} {k : Nat} {x : Gp} (hp : ∀ g ∈ G.take k, (op g.2).1 = 0) (hx : G[k]? = some x) (h : (op x.2).1 ≠ 0) : eachE op G = (op x.2).1 := by
  unfold eachE
  rw [evE_bad hp hx h, if_neg h]
theorem ob_obj {w : World} {base e size n : Nat} {v : Value} {xs : List Value} (h : w.ownsRow base e size v n xs) : ∀ y ∈ ob v, ∃ T vs, Ob w y T vs := by
  intro y hy
  have hy' : v.ownBlock = some y := by simpa [ob] using hy
  rcases h.2 with ⟨rfl, _⟩ | ⟨g, cap, cur, rfl, hb, hg, _⟩
  · cases hy'
  · have : y = g := by simpa [Value.ownBlock] using hy'.symm
    subst this
    exact ⟨e, cur.toList, by unfold Ob; simpa using hg⟩
def ownF (B : Nat) (q : List Vl) (R : List Jp) : Fact := .st (fun u w => ∃ M2, eds M2 = R.map (fun j => (q, j)) ∧ OwnEr w B u M2) (fun _ _ _ h k => by obtain ⟨M2, h1, h2⟩ := h; exact ⟨M2, h1, h2.ext k⟩)
theorem grp_len : ∀ l : List Ed, (grp l).length ≤ l.length
  | [] => Nat.le_refl _
  | e :: r => by
    have ih := grp_len r
    unfold grp
    split
    · simp
    · rename_i q f t h
      rw [h] at ih
      split <;> simp only [List.length_cons] at ih ⊢ <;> omega

end Go.Proofs.YtljkneajdndgjabGreat
set_option linter.unusedVariables false
set_option linter.unusedSimpArgs false
namespace Go.Proofs.YtljkneajdndgjabGreat
open Go.RowKit
attribute [local go_sem] GW.cell GW.frozen In.eq_true In.le_true In.ne In.ne' In.ne_add In.ne_add' In.lt_add Upto.le_true Upto.le_add Upto.lt_add
theorem mayE_len {l : List Ed} (h : mayE l = true) : l.length ≤ 4096 := (mayE_iff.1 h).1
end Go.Proofs.YtljkneajdndgjabGreat
set_option linter.unusedVariables false
set_option linter.unusedSimpArgs false
namespace Go.Proofs.YtljkneajdndgjabGreat
open Go.RowKit
attribute [local go_sem] GW.cell GW.frozen In.eq_true In.le_true In.ne In.ne' In.ne_add In.ne_add' In.lt_add Upto.le_true Upto.le_add Upto.lt_add Oper.semAt_some wide_depth wide_fn
end Go.Proofs.YtljkneajdndgjabGreat
