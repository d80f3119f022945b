/-
  A helper of ours: no claim of its own. Layer 10 (edge): the rows that are told, each with its function, by the code: it ranges over a function itself, and hands copies over.
-/
import Derived.Test.YtljkneajdndgjaaGreatRfw
import Derived.Lib.AppendZerosOnto
import Derived.Lib.LazyBuf
import Derived.WalkLawsBesides
import Derived.Laws.FloatArith
import Derived.Laws.ComplexArith
import Derived.Test.YtljkneajdndgjaaGreatRows
import Derived.Test.YtljkneajdndgjaaGreatMem
import Derived.Handy
import Derived.Maps.RangeWalk
import Derived.Maps.OwnSet
import Derived.Test.YtljkneajdndgjaaGreatRx
import Derived.Sort.LoopGhostIn
import Derived.Test.YtljkneajdndgjaaGreatEdgF
import Derived.Test.YtljkneajdndgjaaGreatEdgO
set_option linter.unusedVariables false
set_option linter.unusedSimpArgs false
namespace Go.Proofs.YtljkneajdndgjaaGreat
open Go.RowKit
attribute [local go_sem] GW.cell GW.frozen In.eq_true In.le_true In.ne In.ne' In.ne_add In.ne_add' In.lt_add Upto.le_true Upto.le_add Upto.lt_add
end Go.Proofs.YtljkneajdndgjaaGreat
set_option linter.unusedVariables false
namespace Go.Proofs.YtljkneajdndgjaaGreat.Floats
open Ieee

end Go.Proofs.YtljkneajdndgjaaGreat.Floats
set_option linter.unusedVariables false
set_option linter.unusedSimpArgs false
namespace Go.Proofs.YtljkneajdndgjaaGreat
open Go.RowKit
attribute [local go_sem] GW.cell GW.frozen In.eq_true In.le_true In.ne In.ne' In.ne_add In.ne_add' In.lt_add Upto.le_true Upto.le_add Upto.lt_add


end Go.Proofs.YtljkneajdndgjaaGreat
set_option linter.unusedVariables false
set_option linter.unusedSimpArgs false
namespace Go.Proofs.YtljkneajdndgjaaGreat
open Go.Maps (Keyed)
/-- Any element reads as itself. -/
def anyE (v : Value) : Option (DataW Value × List MemPlace) := some (.held v, [])
def entE {α : Type} (f : α → Lit × Value) (q : α) : Lit × DataW Value := ((f q).1, .held (f q).2)
/-- Block b is a map with the entries M. -/
def Mv {α : Type} (w : World) (P : Program) (k : TypeId) (f : α → Lit × Value) (b n : Nat) (M : List α) : Prop := ∃ es, w.ownsMap P k anyE b n (.map es) ∧ es.Perm (M.map (entE f))
def getM {α : Type} (f : α → Lit × Value) (M : List α) (kl : Lit) : Option α := M.find? fun q => (f q).1.sameKey kl
def delM {α : Type} (f : α → Lit × Value) (M : List α) (kl : Lit) : List α := M.filter fun q => !(f q).1.sameKey kl
def putM {α : Type} (f : α → Lit × Value) (M : List α) (x : α) : List α := x :: delM f M (f x).1
section
variable {α : Type} {f : α → Lit × Value} {P : Program} {k : TypeId} {w w' : World} {b n : Nat} {M : List α}
theorem Mv.made {α : Type} (f : α → Lit × Value) (w : World) (P : Program) (k : TypeId) : Mv (w.alloc (.map #[] 0)) P k f w.heap.size 0 [] := ⟨[], World.ownsMap_made w P k anyE, List.Perm.refl _⟩
theorem Mv.lt (h : Mv w P k f b n M) : b < w.heap.size := by obtain ⟨es, h, _⟩ := h; exact h.lt
theorem Mv.kept {row : Option Nat} (h : Mv w P k f b n M) (hg : w.grownBy w' row) (hne : some b ≠ row) : Mv w' P k f b n M := by obtain ⟨es, h, p⟩ := h; exact ⟨es, h.kept hg hne, p⟩
theorem Mv.alloc (h : Mv w P k f b n M) (o : Obj) : Mv (w.alloc o) P k f b n M := by obtain ⟨es, h, p⟩ := h; exact ⟨es, h.alloc o, p⟩
/-- Keys are apart. -/
theorem Mv.apart (h : Mv w P k f b n M) (K : Keyed P k) : M.Pairwise (fun p q => (f p).1 ≠ (f q).1) ∧ ∀ q ∈ M, WideAt.IsKeyLit (f q).1 := by
  obtain ⟨es, h, p⟩ := h
  obtain ⟨es', e, h1, h2⟩ := h.entries K
  injection e with e
  subst e
  have h3 : (M.map (entE f)).Pairwise (fun p q => p.1 ≠ q.1) := (p.pairwise_iff (fun {a b} hab => Ne.symm hab)).1 h1
  rw [List.pairwise_map] at h3
  exact ⟨h3, fun q hq => h2 (entE f q) (p.mem_iff.2 (List.mem_map.2 ⟨q, hq, rfl⟩))⟩
theorem find_perm {kl : Lit} {l l' : List (Lit × DataW Value)} (p : l.Perm l') (hd : l.Pairwise (fun p q => p.1 ≠ q.1)) : l.find? (fun p => p.1.sameKey kl) = l'.find? (fun p => p.1.sameKey kl) := by
  induction p with
  | nil => rfl
  | cons x _ ih =>
    rw [List.find?_cons, List.find?_cons, ih (List.pairwise_cons.1 hd).2]
  | swap x y l =>
    have hxy : y.1 ≠ x.1 := (List.pairwise_cons.1 hd).1 x (by simp)
    rw [List.find?_cons, List.find?_cons, List.find?_cons, List.find?_cons]
    cases h1 : y.1.sameKey kl <;> cases h2 : x.1.sameKey kl <;> simp_all
    exact absurd ((WideAt.sameKey_eq h1).trans (WideAt.sameKey_eq h2).symm) hxy
  | trans p1 _ ih1 ih2 =>
    rw [ih1 hd]
    exact ih2 ((p1.pairwise_iff (fun {a b} hab => Ne.symm hab)).1 hd)
theorem any_permM {α : Type} {l m : List α} (p : l.Perm m) (f : α → Bool) : l.any f = m.any f := by
  rw [Bool.eq_iff_iff, List.any_eq_true, List.any_eq_true]
  exact ⟨fun ⟨x, hx, e⟩ => ⟨x, p.mem_iff.1 hx, e⟩, fun ⟨x, hx, e⟩ => ⟨x, p.mem_iff.2 hx, e⟩⟩
theorem insert_perm (x : Lit × DataW Value) : ∀ l : List (Lit × DataW Value), (DataW.insert x l).Perm (x :: l)
  | [] => List.Perm.refl _
  | y :: r => by
    unfold DataW.insert
    split
    · exact List.Perm.refl _
    · exact ((insert_perm x r).cons y).trans (List.Perm.swap x y r)
theorem find_ents (f : α → Lit × Value) (kl : Lit) : ∀ M : List α, (M.map (entE f)).find? (fun p => p.1.sameKey kl) = (M.find? fun q => (f q).1.sameKey kl).map (entE f)
  | [] => rfl
  | q :: M => by
    rw [List.map_cons, List.find?_cons, List.find?_cons, find_ents f kl M]
    show (match (f q).1.sameKey kl with | true => _ | false => _) = _
    cases (f q).1.sameKey kl <;> rfl
theorem filter_ents (f : α → Lit × Value) (kl : Lit) (M : List α) : (M.map (entE f)).filter (fun p => !p.1.sameKey kl) = (delM f M kl).map (entE f) := by
  unfold delM
  rw [List.filter_map]; rfl
theorem Mv.at (h : Mv w P k f b n M) (K : Keyed P k) (kl : Lit) (z : Value) : ∃ es, w.ownsMap P k anyE b n (.map es) ∧ (DataW.map es).atKey kl (.held z) = .held (((getM f M kl).map fun q => (f q).2).getD z) := by
  obtain ⟨es, h, p⟩ := h
  refine ⟨es, h, ?_⟩
  obtain ⟨es', e, h1, -⟩ := h.entries K
  injection e with e
  subst e
  unfold DataW.atKey getM
  simp only
  rw [find_perm p h1, find_ents]
  cases M.find? fun q => (f q).1.sameKey kl <;> rfl
/-- 'm[k]'. -/
theorem Mv.lookup {t e : TypeId} (h : Mv w P k f b n M) (K : Keyed P k) (ht : P.underlying t = some (.map k e)) {z : Value} (hz : (zeroValue e).run P w = .ok z w) {key : Value} {kl : Lit} (hkey : keyOf P k key = some kl) : (Instr.lookup t (.map (some b)) key false).run P w = .ok (((getM f M kl).map fun q => (f q).2).getD z) w := by
  obtain ⟨es, h1, h2⟩ := h.at K kl z
  obtain ⟨v, ps, hrun, hv⟩ := h1.lookup K ht hz (zd := .held z) (zp := []) rfl hkey
  rw [h2] at hv
  unfold anyE at hv
  simp only [Option.some.injEq, Prod.mk.injEq, DataW.held.injEq] at hv
  rw [hrun, hv.1]
/-- 'm[k] = v'. -/
theorem Mv.store {t e : TypeId} (h : Mv w P k f b n M) (K : Keyed P k) (ht : P.underlying t = some (.map k e)) (hn : n < maxLen) {key : Value} (x : α) (hkey : keyOf P k key = some (f x).1) : ∃ w', (Instr.mapUpdate t (.map (some b)) key (f x).2).run P w = .ok () w' ∧ Mv w' P k f b (n + 1) (putM f M x) ∧ w.grownBy w' (some b) := by
  obtain ⟨es, h, p⟩ := h
  obtain ⟨w', hrun, h1, h2⟩ := h.store K ht hn hkey (val := (f x).2) (d := .held (f x).2) (ps := []) rfl
  refine ⟨w', hrun, ⟨_, h1, ?_⟩, h2.grown⟩
  refine (insert_perm _ _).trans ?_
  unfold putM
  rw [List.map_cons, ← filter_ents]
  exact (p.filter _).cons _
/-- 'len(m)'. -/
theorem Mv.len {t e : TypeId} (h : Mv w P k f b n M) (ht : P.underlying t = some (.map k e)) (ty : TypeId) : (Builtin.len_ #[t] ty #[.map (some b)]).run P w = .ok (.int .i64 M.length) w := by
  obtain ⟨es, h, p⟩ := h
  have e1 : es.length = M.length := by rw [p.length_eq, List.length_map]
  rw [h.len ht ty, Go.Maps.size_eq, e1]
/-- 'range m' under way: what is still to come. -/
def Rgv {α : Type} (w : World) (P : Program) (k : TypeId) (f : α → Lit × Value) (b r n : Nat) (M rest : List α) : Prop :=
  ∃ es left cnt, w.ranges P k anyE b r n (.map es) left cnt ∧ es.Perm (M.map (entE f)) ∧ (∀ kl, left kl = rest.any fun q => (f q).1.sameKey kl) ∧ rest.Sublist M
theorem Rgv.owns {r : Nat} {rest : List α} (h : Rgv w P k f b r n M rest) : Mv w P k f b n M := by
  obtain ⟨es, left, cnt, h1, h2, -⟩ := h
  exact ⟨es, h1.owns, h2⟩
theorem Rgv.kept {r : Nat} {rest : List α} {row : Option Nat} (h : Rgv w P k f b r n M rest) (hg : w.grownBy w' row) (hb : some b ≠ row) (hr : some r ≠ row) : Rgv w' P k f b r n M rest := by
  obtain ⟨es, left, cnt, h1, h2⟩ := h
  exact ⟨es, left, cnt, h1.kept hg hb hr, h2⟩
theorem Mv.range {t e : TypeId} (h : Mv w P k f b n M) (K : Keyed P k) (ht : P.underlying t = some (.map k e)) : ∃ w', (Instr.range t (.map (some b))).run P w = .ok (.pointer (some ⟨w.heap.size, 0, none⟩)) w' ∧ Rgv w' P k f b w.heap.size n M M ∧ w.grownBy w' none ∧ w'.heap.size = w.heap.size + 1 := by
  obtain ⟨es, h, p⟩ := h
  obtain ⟨w', hrun, h1, h2, h3⟩ := h.range K ht
  refine ⟨w', hrun, ⟨es, _, _, h1, p, fun kl => ?_, List.Sublist.refl _⟩, h2, h3⟩
  rw [Go.Maps.has_eq, any_permM p, List.any_map]
  rfl
theorem Rgv.next {r : Nat} {rest : List α} (h : Rgv w P k f b r n M rest) (K : Keyed P k) (ty : TypeId) :
    (rest = [] ∧ (Instr.next (.pointer (some ⟨r, 0, none⟩)) false ty).run P w = .ok (.tuple #[.bool false]) w) ∨
    ∃ key q rest' w', keyOf P k key = some (f q).1 ∧ q ∈ M ∧ rest.Perm (q :: rest') ∧ (Instr.next (.pointer (some ⟨r, 0, none⟩)) false ty).run P w = .ok (.tuple #[.bool true, key, (f q).2]) w' ∧ Rgv w' P k f b r n M rest' ∧ w.grownBy w' (some r) ∧ w'.heap.size = w.heap.size ∧ (Instr.entry (.pointer (some ⟨r, 0, none⟩))).run P w' = .ok (.tuple #[key, (f q).2]) w' := by
  have hap := h.owns.apart K
  have hMv := h.owns
  obtain ⟨es, left, cnt, h1, p, hl, hs⟩ := h
  have hself : ∀ q ∈ M, (f q).1.sameKey (f q).1 = true := fun q hq => WideAt.sameKey_self (hap.2 q hq)
  rcases h1.next K ty with ⟨-, h0, hrun⟩ | ⟨key, v, kl, y, w', cnt', hkey, hlk, hRv, hat, hrun, hr, -, hg, hsz, hen⟩
  · left
    refine ⟨List.eq_nil_iff_forall_not_mem.2 fun q hq => ?_, hrun⟩
    have := hl (f q).1
    rw [h0] at this
    have h2 := List.any_eq_false.1 this.symm q hq
    exact h2 (hself q (hs.subset hq))
  · right
    rw [hl] at hlk
    obtain ⟨q, hq, hqk⟩ := List.any_eq_true.1 hlk
    have e1 := WideAt.sameKey_eq hqk
    subst e1
    have hqM := hs.subset hq
    have hv : v = (f q).2 := by
      unfold anyE at hRv
      simp only [Option.some.injEq] at hRv
      obtain ⟨es2, h3, h4⟩ := hMv.at K (f q).1 v
      have h5 := hat (.held v)
      obtain ⟨es', e, h6, -⟩ := h1.owns.entries K
      injection e with e
      subst e
      have h7 : (DataW.map es).atKey (f q).1 (.held v) = .held (f q).2 := by
        unfold DataW.atKey
        simp only
        rw [find_perm p h6, find_ents]
        have h8 : M.find? (fun x => (f x).1.sameKey (f q).1) = some q := by
          rw [List.find?_eq_some_iff_append]
          refine ⟨hqk, ?_⟩
          obtain ⟨l1, l2, e2⟩ := List.append_of_mem hqM
          refine ⟨l1, l2, e2, fun x hx => ?_⟩
          cases hx2 : (f x).1.sameKey (f q).1
          · rfl
          · exfalso
            have h9 := hap.1
            rw [e2, List.pairwise_append] at h9
            exact h9.2.2 x hx q (by simp) (WideAt.sameKey_eq hx2)
        rw [h8]; rfl
      rw [h7, ← hRv] at h5
      injection h5 with h5
      exact h5.symm
    subst hv
    refine ⟨key, q, rest.filter (fun x => !(f x).1.sameKey (f q).1), w', hkey, hqM, ?_, hrun, ⟨es, _, _, hr, p, fun kl => ?_, (List.filter_sublist ..).trans hs⟩, hg, hsz, hen⟩
    · obtain ⟨l1, l2, e2⟩ := List.append_of_mem hq
      have h9 : rest.Pairwise (fun p q => (f p).1 ≠ (f q).1) := hap.1.sublist hs
      rw [e2, List.pairwise_append, List.pairwise_cons] at h9
      have f1 : ∀ x ∈ l1, (!(f x).1.sameKey (f q).1) = true := fun x hx => by
        cases hx2 : (f x).1.sameKey (f q).1
        · rfl
        · exact absurd (WideAt.sameKey_eq hx2) (h9.2.2 x hx q (by simp))
      have f2 : ∀ x ∈ l2, (!(f x).1.sameKey (f q).1) = true := fun x hx => by
        cases hx2 : (f x).1.sameKey (f q).1
        · rfl
        · exact absurd (WideAt.sameKey_eq hx2).symm (h9.2.1.1 x hx)
      rw [e2, List.filter_append, List.filter_cons, hqk, if_neg (by decide), List.filter_eq_self.2 f1, List.filter_eq_self.2 f2]
      exact List.perm_middle
    · show (left kl && !kl.sameKey (f q).1) = _
      rw [hl, List.any_filter]
      cases hk : kl.sameKey (f q).1
      · rw [Bool.not_false, Bool.and_true]
        refine List.any_congr rfl fun x => ?_
        cases hx : (f x).1.sameKey kl
        · simp
        · rw [WideAt.sameKey_eq hx, hk]; rfl
      · rw [Bool.not_true, Bool.and_false]
        symm
        refine List.any_eq_false.2 fun x hx h2 => ?_
        rw [Bool.and_eq_true] at h2
        rw [WideAt.sameKey_eq h2.2, hk] at h2
        exact absurd h2.1 (by decide)
end
section
variable {α : Type} {f : α → Lit × Value} {P : Program} {k : TypeId} {w : World} {b n : Nat} {M : List α} {ops : Array Oper} {rest : List Oper} {o : Oper} {a : Act} {Q : Exit → Act → World → Prop}
theorem wpl_range {t e : TypeId} (hg : o.guard = none) (m : Operand) (hop : o.op = Op.range t m) (hm : a.eval m = .map (some b)) (K : Keyed P k) (ht : P.underlying t = some (.map k e)) (h : Mv w P k f b n M)
    (hK : ∀ w', Rgv w' P k f b w.heap.size n M M → w.grownBy w' none → w'.heap.size = w.heap.size + 1 → wpList P ops Q rest (a.put o.dst (.pointer (some ⟨w.heap.size, 0, none⟩))) w') : wpList P ops Q (o :: rest) a w := by
  refine wpList_plain hg fun K' hK' => ?_
  obtain ⟨w', hrun, r1, r2, r3⟩ := h.range K ht
  unfold Oper.wp
  simp [execOp, hop, hm, hrun, Result.andThen]
  exact hK' _ _ (hK w' r1 r2 r3)
theorem wpl_next {r : Nat} {left : List α} (hg : o.guard = none) (it : Operand) (hop : o.op = Op.next it false) (hit : a.eval it = .pointer (some ⟨r, 0, none⟩)) (K : Keyed P k) (h : Rgv w P k f b r n M left)
    (hDone : left = [] → wpList P ops Q rest (a.put o.dst (.tuple #[.bool false])) w)
    (hMore : ∀ key q left' w', keyOf P k key = some (f q).1 → q ∈ M → left.Perm (q :: left') → Rgv w' P k f b r n M left' → w.grownBy w' (some r) → w'.heap.size = w.heap.size → (Instr.entry (.pointer (some ⟨r, 0, none⟩))).run P w' = .ok (.tuple #[key, (f q).2]) w' → wpList P ops Q rest (a.put o.dst (.tuple #[.bool true, key, (f q).2])) w') : wpList P ops Q (o :: rest) a w := by
  refine wpList_plain hg fun K' hK' => ?_
  unfold Oper.wp
  rcases h.next K o.type with ⟨h0, hrun⟩ | ⟨key, q, left', w', hkey, hq, hp, hrun, hr, hgr, hsz, hen⟩
  · simp [execOp, hop, hit, hrun, Result.andThen]
    exact hK' _ _ (hDone h0)
  · simp [execOp, hop, hit, hrun, Result.andThen]
    exact hK' _ _ (hMore key q left' w' hkey hq hp hr hgr hsz hen)
theorem wpl_mstore {t e : TypeId} (hg : o.guard = none) (m x v : Operand) (hop : o.op = Op.mapUpdate t m x v) {key : Value} (y : α) (hm : a.eval m = .map (some b)) (hx : a.eval x = key) (hv : a.eval v = (f y).2) (K : Keyed P k) (ht : P.underlying t = some (.map k e)) (hn : n < maxLen) (h : Mv w P k f b n M) (hkey : keyOf P k key = some (f y).1)
    (hK : ∀ w', Mv w' P k f b (n + 1) (putM f M y) → w.grownBy w' (some b) → wpList P ops Q rest (a.put o.dst undef) w') : wpList P ops Q (o :: rest) a w := by
  refine wpList_plain hg fun K' hK' => ?_
  obtain ⟨w', hrun, r1, r2⟩ := h.store K ht hn y hkey
  unfold Oper.wp
  simp [execOp, hop, hm, hx, hv, hrun, Result.andThen]
  exact hK' _ _ (hK w' r1 r2)
end
end Go.Proofs.YtljkneajdndgjaaGreat
set_option linter.unusedVariables false
set_option linter.unusedSimpArgs false
namespace Go.Proofs.YtljkneajdndgjaaGreat
open Go.RowKit
attribute [local go_sem] GW.cell GW.frozen In.eq_true In.le_true In.ne In.ne' In.ne_add In.ne_add' In.lt_add Upto.le_true Upto.le_add Upto.lt_add Oper.semAt_some wide_depth wide_fn
section
variable {α : Type} {f : α → Lit × Value} {P : Program} {k : TypeId} {w : World} {b n : Nat} {M : List α} {ops : Array Oper} {rest : List Oper} {o : Oper} {a : Act} {Q : Exit → Act → World → Prop} {F : Fence} {d : Nat}
theorem Mv.isMap (h : Mv w P k f b n M) : ∃ es c, w.heap[b]? = some (.map es c) := by
  obtain ⟨es, ⟨es', c, h, _⟩, _⟩ := h
  exact ⟨es', c, h⟩
theorem Stab.mv {B : Nat} (hb : b < B) : Stab B fun W => Mv W P k f b n M :=
  ⟨fun A C x e => x.kept (ext_by e) (by simp), fun A l o o' x hl _ _ => x.kept (put_grown A l o') (by simp; omega)⟩
end
section
variable {α : Type} {f : α → Lit × Value} {P : Program} {k : TypeId} {w w' : World} {b n r : Nat} {M rest : List α}
theorem Rgv.of_blocks (h : Rgv w P k f b r n M rest) (hb : w'.heap[b]? = w.heap[b]?) (hr : w'.heap[r]? = w.heap[r]?) : Rgv w' P k f b r n M rest := by
  obtain ⟨es, left, cnt, ⟨e2, clock, since, seen, c0, g1, F, hs, hD, g2, rst⟩, h2⟩ := h
  exact ⟨es, left, cnt, ⟨e2, clock, since, seen, c0, hb.trans g1, F, hs, hD, hr.trans g2, rst⟩, h2⟩
theorem Rgv.iter (h : Rgv w P k f b r n M rest) : ∃ o, w.heap[r]? = some o ∧ o.isCells = false := by
  obtain ⟨es, left, cnt, ⟨e2, clock, since, seen, c0, g1, F, hs, hD, g2, rst⟩, h2⟩ := h
  exact ⟨_, g2, rfl⟩
end
theorem next_stab {B r : Nat} {w w' : World} {p : World → Prop} (hp : Stab B p) (h : p w) (hg : w.grownBy w' (some r)) (hs : w'.heap.size = w.heap.size) (hr : B ≤ r) (ho : ∃ o, w.heap[r]? = some o ∧ o.isCells = false) : p w' := by
  obtain ⟨o, ho, hc⟩ := ho
  have hlt := lt_of_block ho
  obtain ⟨A, hA⟩ : ∃ A : World, A = { w with drawn := w'.drawn } := ⟨_, rfl⟩
  have hXA : Ext w A := by rw [hA]; exact ⟨rfl, rfl, rfl, Nat.le_refl _, fun _ _ => rfl⟩
  have hoA : A.heap[r]? = some o := by rw [hA]; exact ho
  have e : w' = A.putObj r (w'.heap[r]'(by omega)) := by
    have hh : w'.heap = w.heap.setIfInBounds r (w'.heap[r]'(by omega)) := by
      apply Array.ext_getElem?
      intro i
      by_cases hi : i = r
      · subst hi
        rw [Array.getElem?_setIfInBounds_self_of_lt hlt, Array.getElem?_eq_getElem]
      · rw [Array.getElem?_setIfInBounds_ne (Ne.symm hi)]
        by_cases hl : i < w.heap.size
        · exact hg.block i hl (by simpa using hi)
        · rw [Array.getElem?_eq_none (by omega), Array.getElem?_eq_none (by omega)]
    have h1 := hg.os
    have h2 := hg.tape
    have h3 := hg.output
    obtain ⟨wh, wt, wd, wo, wu⟩ := w
    obtain ⟨vh, vt, vd, vo, vu⟩ := w'
    simp only at h1 h2 h3 hh
    subst h1; subst h2; subst h3
    rw [hA]
    unfold World.putObj
    simp only
    rw [← hh]
  rw [e]
  exact hp.put A r o _ (hp.ext _ _ h hXA) hr hoA hc
section
variable {P : Program} {w : World}
theorem wplIn_app {F : Fence} {d : Nat} {ops : Array Oper} {rest : List Oper} {o : Oper} {a : Act} {Q : Exit → Act → World → Prop} {t tx e : TypeId} {z : Value} {size bytes base n m : Nat} {v x : Value} {xs news : List Value} (T : ElemT P t e z size bytes)
    (hgd : o.guard = none) (s y : Operand) (ho : o.op = .call { callee := .builtin .append, args := #[s, y], argTypes := #[t, tx] }) (hv : a.eval s = v) (hown : w.ownsRow base e size v n xs) (hx : a.eval y = x) (hs : Src P size tx x m news w)
    (h63 : n + m ≤ maxLen) (hbytes : (n + m) * bytes ≤ 140737488355328) (hbase : base ≤ w.heap.size)
    (h : ∀ v' w', w'.ownsRow base e size v' (n + m) (xs ++ news) → w.grownBy w' v.ownBlock → (v'.ownBlock = v.ownBlock ∨ v'.ownBlock = some w.heap.size) → wpListIn F d P ops Q rest (a.put o.dst v') w') : wpListIn F d P ops Q (o :: rest) a w := by
  refine wpListIn_plain hgd fun K hK => ?_
  obtain ⟨v', w', hr, h2, h3, h4⟩ := run_app (ty := o.type) T hown hs h63 hbytes hbase
  unfold Oper.wpIn
  refine ⟨?_, ?_⟩
  · simp [Oper.about, ho, resolve, Target.leads, Sem.run_pure]
  · rw [Oper.semAt_plain F _ _ (by rw [ho]; intro c hc'; cases hc')]
    unfold execOp
    simp only [ho, resolve, invoke, builtin, Sem.run_bind, Sem.run_pure, Result.andThen_ok, List.map_toArray, List.map_cons, List.map_nil, hv, hx, hr]
    exact hK _ _ (h v' w' h2 h3 h4)
end
section
variable {α : Type} {f : α → Lit × Value} {P : Program} {k : TypeId} {w : World} {b n : Nat} {M : List α} {ops : Array Oper} {rest : List Oper} {o : Oper} {a : Act} {Q : Exit → Act → World → Prop} {F : Fence} {d : Nat}
theorem wplIn_range {t e : TypeId} (hg : o.guard = none) (m : Operand) (hop : o.op = Op.range t m) (hm : a.eval m = .map (some b)) (K : Go.Maps.Keyed P k) (ht : P.underlying t = some (.map k e)) (h : Mv w P k f b n M)
    (hK : ∀ w', Rgv w' P k f b w.heap.size n M M → w.grownBy w' none → w'.heap.size = w.heap.size + 1 → wpListIn F d P ops Q rest (a.put o.dst (.pointer (some ⟨w.heap.size, 0, none⟩))) w') : wpListIn F d P ops Q (o :: rest) a w := by
  refine wpListIn_plain hg fun K' hK' => ?_
  obtain ⟨w', hrun, r1, r2, r3⟩ := h.range K ht
  unfold Oper.wpIn
  refine ⟨?_, ?_⟩
  · simp [Oper.about, hop]
  · rw [Oper.semAt_plain F _ _ (by rw [hop]; intro c hc'; cases hc')]
    simp [execOp, hop, hm, hrun, Result.andThen]
    exact hK' _ _ (hK w' r1 r2 r3)
theorem wplIn_next {r : Nat} {left : List α} (hg : o.guard = none) (it : Operand) (hop : o.op = Op.next it false) (hit : a.eval it = .pointer (some ⟨r, 0, none⟩)) (K : Go.Maps.Keyed P k) (h : Rgv w P k f b r n M left)
    (hDone : left = [] → wpListIn F d P ops Q rest (a.put o.dst (.tuple #[.bool false])) w)
    (hMore : ∀ key q left' w', keyOf P k key = some (f q).1 → q ∈ M → left.Perm (q :: left') → Rgv w' P k f b r n M left' → w.grownBy w' (some r) → w'.heap.size = w.heap.size → (Instr.entry (.pointer (some ⟨r, 0, none⟩))).run P w' = .ok (.tuple #[key, (f q).2]) w' → wpListIn F d P ops Q rest (a.put o.dst (.tuple #[.bool true, key, (f q).2])) w') : wpListIn F d P ops Q (o :: rest) a w := by
  refine wpListIn_plain hg fun K' hK' => ?_
  unfold Oper.wpIn
  refine ⟨?_, ?_⟩
  · simp [Oper.about, hop]
  · rw [Oper.semAt_plain F _ _ (by rw [hop]; intro c hc'; cases hc')]
    rcases h.next K o.type with ⟨h0, hrun⟩ | ⟨key, q, left', w', hkey, hq, hp, hrun, hr, hgr, hsz, hen⟩
    · simp [execOp, hop, hit, hrun, Result.andThen]
      exact hK' _ _ (hDone h0)
    · simp [execOp, hop, hit, hrun, Result.andThen]
      exact hK' _ _ (hMore key q left' w' hkey hq hp hr hgr hsz hen)
end
end Go.Proofs.YtljkneajdndgjaaGreat
set_option linter.unusedVariables false
set_option linter.unusedSimpArgs false
namespace Go.Proofs.YtljkneajdndgjaaGreat
open Go.RowKit
attribute [-go_sem] sliced
attribute [local go_sem] sliced_eq
attribute [local go_sem] GW.cell GW.frozen In.eq_true In.le_true In.ne In.ne' In.ne_add In.ne_add' In.lt_add Upto.le_true Upto.le_add Upto.lt_add Oper.semAt_some wide_depth wide_fn
/-- What comes for a row: the row, and jumps of one's own. -/
def Hgo (x : Gp) (vs : Array Value) (W : World) : Prop := ∃ r f, vs = #[r, f] ∧ (Rw W [] r x.1 ∧ OwnJ W 0 f x.2)
theorem Hgo.stab {B : Nat} (x : Gp) (vs : Array Value) : Stab B (Hgo x vs) := Stab.ex fun r => Stab.ex fun f => (Stab.pure _).and ((Stab.sl _ _ _ _ _).and (Stab.own _ _ _ _ _ _))
theorem Hgo.size {x : Gp} {vs : Array Value} {W : World} (h : Hgo x vs W) : vs.size = 2 := by obtain ⟨r, f, rfl, _⟩ := h; rfl
end Go.Proofs.YtljkneajdndgjaaGreat
set_option linter.unusedVariables false
set_option linter.unusedSimpArgs false
namespace Go.Proofs.YtljkneajdndgjaaGreat
open Go.RowKit
attribute [local go_sem] GW.cell GW.frozen In.eq_true In.le_true In.ne In.ne' In.ne_add In.ne_add' In.lt_add Upto.le_true Upto.le_add Upto.lt_add Oper.semAt_some wide_depth wide_fn
/-- What is told for a row: a copy of it, and its jumps, each in a block of their kind. -/
def Hgg (x : Gp) (vs : Array Value) (W : World) : Prop := ∃ r f, vs = #[r, f] ∧ (OwnR W 0 r x.1 ∧ OwnJ W 0 f x.2)
theorem Hgg.stab {B : Nat} (x : Gp) (vs : Array Value) : Stab B (Hgg x vs) := Stab.ex fun r => Stab.ex fun f => (Stab.pure _).and ((Stab.own _ _ _ _ _ _).and (Stab.own _ _ _ _ _ _))
theorem Hgg.size {x : Gp} {vs : Array Value} {W : World} (h : Hgg x vs W) : vs.size = 2 := by obtain ⟨r, f, rfl, _⟩ := h; rfl
end Go.Proofs.YtljkneajdndgjaaGreat
