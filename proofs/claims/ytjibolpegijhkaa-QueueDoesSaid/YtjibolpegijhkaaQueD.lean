/-
  A helper of ours: no claim of its own. Layer 15 (queue): a queue as what waits in it; a new one, how many wait, the first one, and the first one taken out.
-/
import Derived.Test.YtjibolpegijhkaaQueC
import Derived.Lib.SliceRun
set_option linter.unusedVariables false
set_option linter.unusedSimpArgs false
namespace Go.Proofs.Ytjibolpegijhkaa
open Go.RowKit
attribute [local go_sem] GW.cell GW.frozen In.eq_true In.le_true In.ne In.ne' In.ne_add In.ne_add' In.lt_add Upto.le_true Upto.le_add Upto.lt_add
/-- What waits, in the order in which it came, with numbers. -/
def QS (w : World) (B q : Nat) (P : List It) (n : Int) : Prop := ∃ v H, Qb w q v n ∧ OwnI w B v H ∧ Hp H ∧ H.Perm P ∧ Nums P n ∧ B ≤ q
abbrev ths (P : List It) : List (Int × Int) := P.map (·.1)
theorem QS.ext {w w' : World} {B q : Nat} {P : List It} {n : Int} (h : QS w B q P n) (k : Ext w w') : QS w' B q P n := by
  obtain ⟨v, H, h1, h2, h3⟩ := h
  exact ⟨v, H, Ob.ext h1 k, own_ext h2 k, h3⟩
theorem QS.ft {w w' : World} {B q : Nat} {P : List It} {n : Int} {Ts : List TypeId} (h : QS w B q P n) (k : Ft B Ts w w') (h1 : 47 ∉ Ts) (h2 : 49 ∉ Ts) : QS w' B q P n := by
  obtain ⟨v, H, k1, k2, k3⟩ := h
  exact ⟨v, H, k.ob k1 h1, k.own k2 h2, k3⟩
theorem QS.lt {w : World} {B q : Nat} {P : List It} {n : Int} (h : QS w B q P n) : q < w.heap.size ∧ B ≤ q := by
  obtain ⟨v, H, h1, _, _, _, _, h6⟩ := h
  exact ⟨Ob.lt h1, h6⟩
set_option maxHeartbeats 2000000 in
theorem new_c (B : Nat) (w : World) (hB : B ≤ w.heap.size) : Calls Try.prog 7 #[.func (.func 8) #[] #[]] w fun e w' => ∃ q, e = .returned (.pointer (some ⟨q, 0, none⟩)) ∧ QS w' B q [] 0 ∧ w.heap.size ≤ q ∧ Ext w w' := by
  have hO := hide (Ob.new w 47 [.func (.func 8) #[] #[], .slice none 0 0, .int .i64 0])
  go_enter Try.func7, Try.ntmps7
  go_wp2_with fail
  go_returns
  exact ⟨_, rfl, ⟨_, [], hO.out, World.ownsRow_nil _ _ _ _, (fun j x y _ hx => by simp at hx), List.Perm.refl _, ⟨List.Pairwise.nil, by simp⟩, hB⟩, Nat.le_refl _, (Ext.refl w).alloc _⟩
set_option maxHeartbeats 2000000 in
theorem qlen_c (B q : Nat) (P : List It) (n : Int) (w : World) (h : QS w B q P n) : Calls Try.prog 14 #[.pointer (some ⟨q, 0, none⟩)] w fun e w' => e = .returned (.int .i64 P.length) ∧ Ext w w' := by
  obtain ⟨v, H, h1, h2, -, hp, -⟩ := h
  obtain ⟨A, cap, rfl⟩ := own_form h2
  have q1 := Ob.cell h1 1 rfl
  have hlt := Ob.lt h1
  haveI : In q w := ⟨hlt⟩
  have hl := hide hp.length_eq
  clear h1 h2 hp
  rw [← hl.out]
  go_enter Try.func14, Try.ntmps14
  go_wp2_with fail
  go_returns
  exact ⟨rfl, Ext.refl w⟩
set_option maxHeartbeats 4000000 in
set_option maxRecDepth 100000 in
theorem peek_c (B q : Nat) (P : List It) (n : Int) (w : World) (h : QS w B q P n) : Calls Try.prog 12 #[.pointer (some ⟨q, 0, none⟩)] w fun e w' => e = .returned (.tuple #[jm (hdL (ths P)), .bool (decide (0 < P.length))]) ∧ Ext w w' := by
  have hL := hide (fun w' (hX : Ext w w') => qlen_c B q P n w' (h.ext hX))
  obtain ⟨v, H, h1, h2, h3, hp, hn, hBq⟩ := h
  have hlt := Ob.lt h1
  haveI : In q w := ⟨hlt⟩
  rcases P with _ | ⟨p0, P⟩
  · have e1 : hdL (ths []) = (0, 0) := rfl
    rw [e1]
    clear h1 h2 h3 hp hn e1
    go_enter Try.func12, Try.ntmps12
    go_wp2_with (go_at_call 14; (with_reducible refine seq_gw (hL.out _ ((Ext.refl _).alloc _)) ?_); intro g)
    go_returns
    exact ⟨by simp [jm], ((((Ext.refl w).alloc _).trans g.grown).setCell (Nat.le_refl _) _).setCell (Nat.le_refl _) _ |>.alloc _⟩
  · obtain ⟨g, cap, rfl, hgB, hgl, hc1, hc2⟩ := item_block h2 (by rw [hp.length_eq]; simp)
    obtain ⟨r, hr⟩ : ∃ r, H[0]? = some r := ⟨_, List.getElem?_eq_getElem (by rw [hp.length_eq]; simp)⟩
    obtain ⟨i, hi, hf, -⟩ := root_first h3 hp hn hr
    obtain ⟨hd, -⟩ := hdL_get hf
    have e1 : hdL (ths (p0 :: P)) = r.1 := by
      rw [List.getElem?_map, hi] at hd
      exact (Option.some.inj hd).symm
    rw [e1]
    obtain ⟨c0, c1, c2⟩ := item_cells h2 hr
    rw [Nat.zero_mul, Nat.zero_add] at *
    have q1 := Ob.cell h1 1 rfl
    haveI : In g w := ⟨hgl⟩
    have hl0 : 0 < H.length := by rw [hp.length_eq]; simp
    obtain ⟨⟨ra, rn⟩, rk⟩ := r
    simp only at c0 c1 c2
    obtain ⟨m, hm⟩ : ∃ m, m + 1 = H.length := ⟨H.length - 1, by omega⟩
    have hPm : (p0 :: P).length = m + 1 := by rw [hm, hp.length_eq]
    rw [hPm] at hL ⊢
    rw [← hm] at q1 hc1
    have hne : (((m : Int) + 1) == 0) = false := by rw [beq_eq_false_iff_ne]; omega
    have em : ((m + 1 : Nat) : Int) = (m : Int) + 1 := by omega
    simp only [em] at hL
    clear h1 h2 h3 hp hn hi hf hd e1 hr hl0 hPm
    replace hm := hide hm
    go_enter Try.func12, Try.ntmps12
    go_wp2_with (go_at_call 14; (with_reducible refine seq_gw (hL.out _ ((Ext.refl _).alloc _)) ?_); intro g7)
    go_returns
    exact ⟨by simp [jm], ((((Ext.refl w).alloc _).trans g7.grown).setCell (Nat.le_refl _) _).setCell (Nat.le_refl _) _⟩
section
variable {P : Program} {ops : Array Oper} {rest : List Oper} {o : Oper} {a : Act} {Q : Exit → Act → World → Prop} {w : World}
/-- 'clear' at a slice whose cells are told. -/
theorem wpl_clear {t : TypeId} (hgd : o.guard = none) (s : Operand) (ho : o.op = .call { callee := .builtin .clear, args := #[s], argTypes := #[t] }) {u : Value} (hv : a.eval s = u) {w' : World} (hr : ∀ ty, (Builtin.clear_ #[t] ty #[u]).run P w = .ok (.tuple #[]) w')
    (h : wpList P ops Q rest (a.put o.dst (.tuple #[])) w') : wpList P ops Q (o :: rest) a w := by
  refine wpList_plain hgd fun K hK => ?_
  unfold Oper.wp execOp
  simp only [ho, resolve, invoke, builtin, Sem.run_bind, Sem.run_pure, Result.andThen_ok, List.map_toArray, List.map_cons, List.map_nil, hv, hr]
  exact hK _ _ h
end
end Go.Proofs.Ytjibolpegijhkaa
