/-
  A helper of ours: no claim of its own. A map in memory as a list of its entries, in any order; what lookup, update, delete and range make of it, whatever the elements.
-/
import Derived.Maps.RangeWalk
import Derived.Maps.OwnSet
set_option linter.unusedVariables false
set_option linter.unusedSimpArgs false
namespace Go.Proofs.YtajelkkiijdegaaGreat
open Go.Maps (Keyed)
/-- Any element reads as itself. -/
def anyE (v : Value) : Option (DataW Value × List MemPlace) := some (.held v, [])
def entE {α : Type} (f : α → Lit × Value) (q : α) : Lit × DataW Value := ((f q).1, .held (f q).2)
/-- Block b is a map with the entries M. -/
def Mv {α : Type} (w : World) (P : Program) (k : TypeId) (f : α → Lit × Value) (b n : Nat) (M : List α) : Prop := ∃ es, w.ownsMap P k anyE b n (.map es) ∧ es.Perm (M.map (entE f))
def getM {α : Type} (f : α → Lit × Value) (M : List α) (kl : Lit) : Option α := M.find? fun q => (f q).1.sameKey kl
def delM {α : Type} (f : α → Lit × Value) (M : List α) (kl : Lit) : List α := M.filter fun q => !(f q).1.sameKey kl
def putM {α : Type} (f : α → Lit × Value) (M : List α) (x : α) : List α := x :: delM f M (f x).1
section
variable {α : Type} {f : α → Lit × Value} {P : Program} {k : TypeId} {w w' : World} {b n : Nat} {M : List α}
theorem Mv.made {α : Type} (f : α → Lit × Value) (w : World) (P : Program) (k : TypeId) : Mv (w.alloc (.map #[] 0)) P k f w.heap.size 0 [] := ⟨[], World.ownsMap_made w P k anyE, List.Perm.refl _⟩
theorem Mv.lt (h : Mv w P k f b n M) : b < w.heap.size := by obtain ⟨es, h, _⟩ := h; exact h.lt
theorem Mv.kept {row : Option Nat} (h : Mv w P k f b n M) (hg : w.grownBy w' row) (hne : some b ≠ row) : Mv w' P k f b n M := by obtain ⟨es, h, p⟩ := h; exact ⟨es, h.kept hg hne, p⟩
theorem Mv.alloc (h : Mv w P k f b n M) (o : Obj) : Mv (w.alloc o) P k f b n M := by obtain ⟨es, h, p⟩ := h; exact ⟨es, h.alloc o, p⟩
theorem Mv.perm (h : Mv w P k f b n M) {M' : List α} (hp : M.Perm M') : Mv w P k f b n M' := by obtain ⟨es, h, p⟩ := h; exact ⟨es, h, p.trans (hp.map _)⟩
theorem find_perm {kl : Lit} {l l' : List (Lit × DataW Value)} (p : l.Perm l') (hd : l.Pairwise (fun p q => p.1 ≠ q.1)) : l.find? (fun p => p.1.sameKey kl) = l'.find? (fun p => p.1.sameKey kl) := by
  induction p with
  | nil => rfl
  | cons x _ ih =>
    rw [List.find?_cons, List.find?_cons, ih (List.pairwise_cons.1 hd).2]
  | swap x y l =>
    have hxy : y.1 ≠ x.1 := (List.pairwise_cons.1 hd).1 x (by simp)
    rw [List.find?_cons, List.find?_cons, List.find?_cons, List.find?_cons]
    cases h1 : y.1.sameKey kl <;> cases h2 : x.1.sameKey kl <;> simp_all
    exact absurd ((WideAt.sameKey_eq h1).trans (WideAt.sameKey_eq h2).symm) hxy
  | trans p1 _ ih1 ih2 =>
    rw [ih1 hd]
    exact ih2 ((p1.pairwise_iff (fun {a b} hab => Ne.symm hab)).1 hd)
theorem any_permM {α : Type} {l m : List α} (p : l.Perm m) (f : α → Bool) : l.any f = m.any f := by
  rw [Bool.eq_iff_iff, List.any_eq_true, List.any_eq_true]
  exact ⟨fun ⟨x, hx, e⟩ => ⟨x, p.mem_iff.1 hx, e⟩, fun ⟨x, hx, e⟩ => ⟨x, p.mem_iff.2 hx, e⟩⟩
theorem insert_perm (x : Lit × DataW Value) : ∀ l : List (Lit × DataW Value), (DataW.insert x l).Perm (x :: l)
  | [] => List.Perm.refl _
  | y :: r => by
    unfold DataW.insert
    split
    · exact List.Perm.refl _
    · exact ((insert_perm x r).cons y).trans (List.Perm.swap x y r)
theorem find_ents (f : α → Lit × Value) (kl : Lit) : ∀ M : List α, (M.map (entE f)).find? (fun p => p.1.sameKey kl) = (M.find? fun q => (f q).1.sameKey kl).map (entE f)
  | [] => rfl
  | q :: M => by
    rw [List.map_cons, List.find?_cons, List.find?_cons, find_ents f kl M]
    show (match (f q).1.sameKey kl with | true => _ | false => _) = _
    cases (f q).1.sameKey kl <;> rfl
theorem filter_ents (f : α → Lit × Value) (kl : Lit) (M : List α) : (M.map (entE f)).filter (fun p => !p.1.sameKey kl) = (delM f M kl).map (entE f) := by
  unfold delM
  rw [List.filter_map]; rfl
theorem Mv.at (h : Mv w P k f b n M) (K : Keyed P k) (kl : Lit) (z : Value) : ∃ es, w.ownsMap P k anyE b n (.map es) ∧ (DataW.map es).atKey kl (.held z) = .held (((getM f M kl).map fun q => (f q).2).getD z) := by
  obtain ⟨es, h, p⟩ := h
  refine ⟨es, h, ?_⟩
  obtain ⟨es', e, h1, -⟩ := h.entries K
  injection e with e
  subst e
  unfold DataW.atKey getM
  simp only
  rw [find_perm p h1, find_ents]
  cases M.find? fun q => (f q).1.sameKey kl <;> rfl
/-- 'm[k]'. -/
theorem Mv.lookup {t e : TypeId} (h : Mv w P k f b n M) (K : Keyed P k) (ht : P.underlying t = some (.map k e)) {z : Value} (hz : (zeroValue e).run P w = .ok z w) {key : Value} {kl : Lit} (hkey : keyOf P k key = some kl) : (Instr.lookup t (.map (some b)) key false).run P w = .ok (((getM f M kl).map fun q => (f q).2).getD z) w := by
  obtain ⟨es, h1, h2⟩ := h.at K kl z
  obtain ⟨v, ps, hrun, hv⟩ := h1.lookup K ht hz (zd := .held z) (zp := []) rfl hkey
  rw [h2] at hv
  unfold anyE at hv
  simp only [Option.some.injEq, Prod.mk.injEq, DataW.held.injEq] at hv
  rw [hrun, hv.1]
/-- 'm[k] = v'. -/
theorem Mv.store {t e : TypeId} (h : Mv w P k f b n M) (K : Keyed P k) (ht : P.underlying t = some (.map k e)) (hn : n < maxLen) {key : Value} (x : α) (hkey : keyOf P k key = some (f x).1) : ∃ w', (Instr.mapUpdate t (.map (some b)) key (f x).2).run P w = .ok () w' ∧ Mv w' P k f b (n + 1) (putM f M x) ∧ w.grownBy w' (some b) := by
  obtain ⟨es, h, p⟩ := h
  obtain ⟨w', hrun, h1, h2⟩ := h.store K ht hn hkey (val := (f x).2) (d := .held (f x).2) (ps := []) rfl
  refine ⟨w', hrun, ⟨_, h1, ?_⟩, h2.grown⟩
  refine (insert_perm _ _).trans ?_
  unfold putM
  rw [List.map_cons, ← filter_ents]
  exact (p.filter _).cons _
/-- 'delete(m, k)'. -/
theorem Mv.drop {t e : TypeId} (h : Mv w P k f b n M) (K : Keyed P k) (ht : P.underlying t = some (.map k e)) {key : Value} {kl : Lit} (hkey : keyOf P k key = some kl) (ty : TypeId) : ∃ w', (Builtin.delete_ #[t, k] ty #[.map (some b), key]).run P w = .ok (.tuple #[]) w' ∧ Mv w' P k f b n (delM f M kl) ∧ w.grownBy w' (some b) := by
  obtain ⟨es, h, p⟩ := h
  obtain ⟨w', hrun, h1, h2⟩ := h.drop K ht hkey ty
  refine ⟨w', hrun, ⟨_, h1, ?_⟩, h2.grown⟩
  rw [← filter_ents]
  exact p.filter _
/-- 'len(m)'. -/
theorem Mv.len {t e : TypeId} (h : Mv w P k f b n M) (ht : P.underlying t = some (.map k e)) (ty : TypeId) : (Builtin.len_ #[t] ty #[.map (some b)]).run P w = .ok (.int .i64 M.length) w := by
  obtain ⟨es, h, p⟩ := h
  have e1 : es.length = M.length := by rw [p.length_eq, List.length_map]
  rw [h.len ht ty, Go.Maps.size_eq, e1]
end
section
variable {α : Type} {f : α → Lit × Value} {P : Program} {k : TypeId} {w : World} {b n : Nat} {M : List α} {ops : Array Oper} {rest : List Oper} {o : Oper} {a : Act} {Q : Exit → Act → World → Prop}
theorem wpl_mstore {t e : TypeId} (hg : o.guard = none) (m x v : Operand) (hop : o.op = Op.mapUpdate t m x v) {key : Value} (y : α) (hm : a.eval m = .map (some b)) (hx : a.eval x = key) (hv : a.eval v = (f y).2) (K : Keyed P k) (ht : P.underlying t = some (.map k e)) (hn : n < maxLen) (h : Mv w P k f b n M) (hkey : keyOf P k key = some (f y).1)
    (hK : ∀ w', Mv w' P k f b (n + 1) (putM f M y) → w.grownBy w' (some b) → wpList P ops Q rest (a.put o.dst undef) w') : wpList P ops Q (o :: rest) a w := by
  refine wpList_plain hg fun K' hK' => ?_
  obtain ⟨w', hrun, r1, r2⟩ := h.store K ht hn y hkey
  unfold Oper.wp
  simp [execOp, hop, hm, hx, hv, hrun, Result.andThen]
  exact hK' _ _ (hK w' r1 r2)
theorem wpl_mdel {t e : TypeId} (hg : o.guard = none) (m x : Operand) (hop : o.op = Op.call { callee := Callee.builtin Builtin.delete, args := #[m, x], argTypes := #[t, k] }) {key : Value} {kl : Lit} (hm : a.eval m = .map (some b)) (hx : a.eval x = key) (K : Keyed P k) (ht : P.underlying t = some (.map k e)) (h : Mv w P k f b n M) (hkey : keyOf P k key = some kl)
    (hK : ∀ w', Mv w' P k f b n (delM f M kl) → w.grownBy w' (some b) → wpList P ops Q rest (a.put o.dst (.tuple #[])) w') : wpList P ops Q (o :: rest) a w := by
  refine wpList_plain hg fun K' hK' => ?_
  obtain ⟨w', hrun, r1, r2⟩ := h.drop K ht hkey o.type
  unfold Oper.wp
  simp [execOp, hop, resolve, invoke, builtin, hm, hx, hrun, Result.andThen]
  exact hK' _ _ (hK w' r1 r2)
end
end Go.Proofs.YtajelkkiijdegaaGreat
