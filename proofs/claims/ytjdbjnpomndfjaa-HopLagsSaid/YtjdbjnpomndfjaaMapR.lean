/-
  A helper of ours: no claim of its own. Maps in a round of a range over a function: stores, ranges, appends; what lies in no map's block.
-/
import Derived.Test.YtjdbjnpomndfjaaMapV
import Derived.Test.YtjdbjnpomndfjaaRx
import Derived.Test.YtjdbjnpomndfjaaOwn
import Derived.Sort.LoopGhostIn
set_option linter.unusedVariables false
set_option linter.unusedSimpArgs false
namespace Go.Proofs.Ytjdbjnpomndfjaa
open Go.RowKit
attribute [local go_sem] GW.cell GW.frozen In.eq_true In.le_true In.ne In.ne' In.ne_add In.ne_add' In.lt_add Upto.le_true Upto.le_add Upto.lt_add Oper.semAt_some wide_depth wide_fn
section
variable {α : Type} {f : α → Lit × Value} {P : Program} {k : TypeId} {w : World} {b n : Nat} {M : List α} {ops : Array Oper} {rest : List Oper} {o : Oper} {a : Act} {Q : Exit → Act → World → Prop} {F : Fence} {d : Nat}
theorem Mv.isMap (h : Mv w P k f b n M) : ∃ es c, w.heap[b]? = some (.map es c) := by
  obtain ⟨es, ⟨es', c, h, _⟩, _⟩ := h
  exact ⟨es', c, h⟩
theorem Stab.mv {B : Nat} (hb : b < B) : Stab B fun W => Mv W P k f b n M :=
  ⟨fun A C x e => x.kept (ext_by e) (by simp), fun A l o o' x hl _ _ => x.kept (put_grown A l o') (by simp; omega)⟩
end
section
variable {α : Type} {f : α → Lit × Value} {P : Program} {k : TypeId} {w w' : World} {b n r : Nat} {M rest : List α}
theorem Rgv.of_blocks (h : Rgv w P k f b r n M rest) (hb : w'.heap[b]? = w.heap[b]?) (hr : w'.heap[r]? = w.heap[r]?) : Rgv w' P k f b r n M rest := by
  obtain ⟨es, left, cnt, ⟨e2, clock, since, seen, c0, g1, F, hs, hD, g2, rst⟩, h2⟩ := h
  exact ⟨es, left, cnt, ⟨e2, clock, since, seen, c0, hb.trans g1, F, hs, hD, hr.trans g2, rst⟩, h2⟩
theorem Rgv.iter (h : Rgv w P k f b r n M rest) : ∃ o, w.heap[r]? = some o ∧ o.isCells = false := by
  obtain ⟨es, left, cnt, ⟨e2, clock, since, seen, c0, g1, F, hs, hD, g2, rst⟩, h2⟩ := h
  exact ⟨_, g2, rfl⟩
end
theorem next_stab {B r : Nat} {w w' : World} {p : World → Prop} (hp : Stab B p) (h : p w) (hg : w.grownBy w' (some r)) (hs : w'.heap.size = w.heap.size) (hr : B ≤ r) (ho : ∃ o, w.heap[r]? = some o ∧ o.isCells = false) : p w' := by
  obtain ⟨o, ho, hc⟩ := ho
  have hlt := lt_of_block ho
  obtain ⟨A, hA⟩ : ∃ A : World, A = { w with drawn := w'.drawn } := ⟨_, rfl⟩
  have hXA : Ext w A := by rw [hA]; exact ⟨rfl, rfl, rfl, Nat.le_refl _, fun _ _ => rfl⟩
  have hoA : A.heap[r]? = some o := by rw [hA]; exact ho
  have e : w' = A.putObj r (w'.heap[r]'(by omega)) := by
    have hh : w'.heap = w.heap.setIfInBounds r (w'.heap[r]'(by omega)) := by
      apply Array.ext_getElem?
      intro i
      by_cases hi : i = r
      · subst hi
        rw [Array.getElem?_setIfInBounds_self_of_lt hlt, Array.getElem?_eq_getElem]
      · rw [Array.getElem?_setIfInBounds_ne (Ne.symm hi)]
        by_cases hl : i < w.heap.size
        · exact hg.block i hl (by simpa using hi)
        · rw [Array.getElem?_eq_none (by omega), Array.getElem?_eq_none (by omega)]
    have h1 := hg.os
    have h2 := hg.tape
    have h3 := hg.output
    obtain ⟨wh, wt, wd, wo, wu⟩ := w
    obtain ⟨vh, vt, vd, vo, vu⟩ := w'
    simp only at h1 h2 h3 hh
    subst h1; subst h2; subst h3
    rw [hA]
    unfold World.putObj
    simp only
    rw [← hh]
  rw [e]
  exact hp.put A r o _ (hp.ext _ _ h hXA) hr hoA hc
section
variable {P : Program} {w : World}
theorem wplIn_app {F : Fence} {d : Nat} {ops : Array Oper} {rest : List Oper} {o : Oper} {a : Act} {Q : Exit → Act → World → Prop} {t tx e : TypeId} {z : Value} {size bytes base n m : Nat} {v x : Value} {xs news : List Value} (T : ElemT P t e z size bytes)
    (hgd : o.guard = none) (s y : Operand) (ho : o.op = .call { callee := .builtin .append, args := #[s, y], argTypes := #[t, tx] }) (hv : a.eval s = v) (hown : w.ownsRow base e size v n xs) (hx : a.eval y = x) (hs : Src P size tx x m news w)
    (h63 : n + m ≤ maxLen) (hbytes : (n + m) * bytes ≤ 140737488355328) (hbase : base ≤ w.heap.size)
    (h : ∀ v' w', w'.ownsRow base e size v' (n + m) (xs ++ news) → w.grownBy w' v.ownBlock → (v'.ownBlock = v.ownBlock ∨ v'.ownBlock = some w.heap.size) → wpListIn F d P ops Q rest (a.put o.dst v') w') : wpListIn F d P ops Q (o :: rest) a w := by
  refine wpListIn_plain hgd fun K hK => ?_
  obtain ⟨v', w', hr, h2, h3, h4⟩ := run_app (ty := o.type) T hown hs h63 hbytes hbase
  unfold Oper.wpIn
  refine ⟨?_, ?_⟩
  · simp [Oper.about, ho, resolve, Target.leads, Sem.run_pure]
  · rw [Oper.semAt_plain F _ _ (by rw [ho]; intro c hc'; cases hc')]
    unfold execOp
    simp only [ho, resolve, invoke, builtin, Sem.run_bind, Sem.run_pure, Result.andThen_ok, List.map_toArray, List.map_cons, List.map_nil, hv, hx, hr]
    exact hK _ _ (h v' w' h2 h3 h4)
end
section
variable {α : Type} {f : α → Lit × Value} {P : Program} {k : TypeId} {w : World} {b n : Nat} {M : List α} {ops : Array Oper} {rest : List Oper} {o : Oper} {a : Act} {Q : Exit → Act → World → Prop} {F : Fence} {d : Nat}
theorem wplIn_range {t e : TypeId} (hg : o.guard = none) (m : Operand) (hop : o.op = Op.range t m) (hm : a.eval m = .map (some b)) (K : Go.Maps.Keyed P k) (ht : P.underlying t = some (.map k e)) (h : Mv w P k f b n M)
    (hK : ∀ w', Rgv w' P k f b w.heap.size n M M → w.grownBy w' none → w'.heap.size = w.heap.size + 1 → wpListIn F d P ops Q rest (a.put o.dst (.pointer (some ⟨w.heap.size, 0, none⟩))) w') : wpListIn F d P ops Q (o :: rest) a w := by
  refine wpListIn_plain hg fun K' hK' => ?_
  obtain ⟨w', hrun, r1, r2, r3⟩ := h.range K ht
  unfold Oper.wpIn
  refine ⟨?_, ?_⟩
  · simp [Oper.about, hop]
  · rw [Oper.semAt_plain F _ _ (by rw [hop]; intro c hc'; cases hc')]
    simp [execOp, hop, hm, hrun, Result.andThen]
    exact hK' _ _ (hK w' r1 r2 r3)
theorem wplIn_next {r : Nat} {left : List α} (hg : o.guard = none) (it : Operand) (hop : o.op = Op.next it false) (hit : a.eval it = .pointer (some ⟨r, 0, none⟩)) (K : Go.Maps.Keyed P k) (h : Rgv w P k f b r n M left)
    (hDone : left = [] → wpListIn F d P ops Q rest (a.put o.dst (.tuple #[.bool false])) w)
    (hMore : ∀ key q left' w', keyOf P k key = some (f q).1 → q ∈ M → left.Perm (q :: left') → Rgv w' P k f b r n M left' → w.grownBy w' (some r) → w'.heap.size = w.heap.size → (Instr.entry (.pointer (some ⟨r, 0, none⟩))).run P w' = .ok (.tuple #[key, (f q).2]) w' → wpListIn F d P ops Q rest (a.put o.dst (.tuple #[.bool true, key, (f q).2])) w') : wpListIn F d P ops Q (o :: rest) a w := by
  refine wpListIn_plain hg fun K' hK' => ?_
  unfold Oper.wpIn
  refine ⟨?_, ?_⟩
  · simp [Oper.about, hop]
  · rw [Oper.semAt_plain F _ _ (by rw [hop]; intro c hc'; cases hc')]
    rcases h.next K o.type with ⟨h0, hrun⟩ | ⟨key, q, left', w', hkey, hq, hp, hrun, hr, hgr, hsz, hen⟩
    · simp [execOp, hop, hit, hrun, Result.andThen]
      exact hK' _ _ (hDone h0)
    · simp [execOp, hop, hit, hrun, Result.andThen]
      exact hK' _ _ (hMore key q left' w' hkey hq hp hr hgr hsz hen)
end
end Go.Proofs.Ytjdbjnpomndfjaa
