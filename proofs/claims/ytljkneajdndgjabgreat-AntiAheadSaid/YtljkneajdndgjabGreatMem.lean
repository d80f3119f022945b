/-
  A helper of ours: no claim of its own. What a walk carries of memory: worlds that differ in named blocks alone ('Fr'), an object that is one whole block ('Ob'), a slice whose cells are told and lie in no named block ('Sl'), and one law on append for whatever source.
-/
import Derived.Test.YtljkneajdndgjabGreatGw
import Derived.Laws.OwnMore
import Derived.Deep.AppendSrc
import Derived.Laws.BytesArg
import Derived.OwnWalk
import Derived.Laws.IdiomStrings
set_option linter.unusedVariables false
set_option linter.unusedSimpArgs false
namespace Go.Proofs.YtljkneajdndgjabGreat
open Go.RowKit

theorem add_plain (b o j : Nat) : (⟨b, o, none⟩ : Addr).add j = ⟨b, o + j, none⟩ := by unfold Addr.add; split <;> simp_all

/-- All blocks but those of S are as they were. -/
structure Fr (S : List Nat) (W w : World) : Prop where
  os : w.os = W.os
  tape : w.tape = W.tape
  output : w.output = W.output
  size : W.heap.size ≤ w.heap.size
  block : ∀ k, k < W.heap.size → k ∉ S → w.heap[k]? = W.heap[k]?

section
variable {S S' : List Nat} {W w w' : World}
theorem Fr.refl (S : List Nat) (W : World) : Fr S W W := ⟨rfl, rfl, rfl, Nat.le_refl _, fun _ _ _ => rfl⟩
theorem Fr.trans (h : Fr S W w) (k : Fr S w w') : Fr S W w' :=
  ⟨k.os.trans h.os, k.tape.trans h.tape, k.output.trans h.output, Nat.le_trans h.size k.size, fun i hi hn => (k.block i (Nat.lt_of_lt_of_le hi h.size) hn).trans (h.block i hi hn)⟩
theorem Fr.more (h : Fr S W w) (hs : ∀ k, k < W.heap.size → k ∈ S → k ∈ S') : Fr S' W w := ⟨h.os, h.tape, h.output, h.size, fun i hi hn => h.block i hi fun m => hn (hs i hi m)⟩
/-- A step that touches other blocks of its own, all of which are either named or new. -/
theorem Fr.then (h : Fr S W w) (k : Fr S' w w') (hs : ∀ b, b ∈ S' → b ∈ S ∨ W.heap.size ≤ b) : Fr S W w' :=
  ⟨k.os.trans h.os, k.tape.trans h.tape, k.output.trans h.output, Nat.le_trans h.size k.size, fun i hi hn =>
    (k.block i (Nat.lt_of_lt_of_le hi h.size) (fun m => (hs i m).elim hn (fun hle => by omega))).trans (h.block i hi hn)⟩
theorem Fr.of_ext (h : Ext W w) : Fr S W w := ⟨h.os, h.tape, h.output, h.size, fun k hk _ => h.block k hk⟩
theorem Fr.ext (h : Fr [] W w) : Ext W w := ⟨h.os, h.tape, h.output, h.size, fun k hk => h.block k hk (by simp)⟩
theorem Fr.setCell (h : Fr S W w) (p : Addr) (u : Value) (hp : p.block ∈ S ∨ W.heap.size ≤ p.block) : Fr S W (w.setCell p u) :=
  ⟨h.os, h.tape, h.output, by simpa using h.size, fun i hi hn => (Below.heap_setCell w p u i (fun e => by subst e; exact hp.elim hn (fun hle => by omega))).trans (h.block i hi hn)⟩
theorem Fr.grown {row : Option Nat} (h : Fr S W w) (hg : w.grownBy w' row) (hr : ∀ k, row = some k → k ∈ S ∨ W.heap.size ≤ k) : Fr S W w' :=
  ⟨hg.os.trans h.os, hg.tape.trans h.tape, hg.output.trans h.output, Nat.le_trans h.size hg.size, fun i hi hn =>
    (hg.block i (Nat.lt_of_lt_of_le hi h.size) (fun e => (hr i e.symm).elim hn (fun hle => by omega))).trans (h.block i hi hn)⟩
theorem ext_fr (h : Ext W w) (k : Fr S w w') (hs : ∀ b, b ∈ S → W.heap.size ≤ b) : Ext W w' :=
  (Fr.then (S := []) (Fr.of_ext h) k fun b hb => .inr (hs b hb)).ext
theorem ext_grown {row : Option Nat} (h : Ext W w) (hg : w.grownBy w' row) (hr : ∀ k, row = some k → W.heap.size ≤ k) : Ext W w' :=
  (Fr.grown (S := []) (Fr.of_ext h) hg fun k hk => .inr (hr k hk)).ext
end

/-- Block b is just the cells vs. -/
def Ob (w : World) (b : Nat) (T : TypeId) (vs : List Value) : Prop := w.heap[b]? = some (.cells vs.toArray T (0, 0))

section
variable {S : List Nat} {W w w' : World} {b : Nat} {T : TypeId} {vs : List Value}
theorem Ob.lt (h : Ob w b T vs) : b < w.heap.size := lt_of_block h
theorem Ob.cell (h : Ob w b T vs) (i : Nat) {u : Value} (hu : vs[i]? = some u) : w.cell? ⟨b, i, none⟩ = some u := by
  rw [cell_of_row w b i vs.toArray T (0, 0) h]; simpa using hu
theorem Ob.free (h : Ob w b T vs) (i : Nat) : w.frozen? ⟨b, i, none⟩ = false := frozen_of_row w b i _ T h
theorem Ob.fr (h : Ob W b T vs) (k : Fr S W w) (hn : b ∉ S) : Ob w b T vs := (k.block b h.lt hn).trans h
theorem Ob.ext (h : Ob W b T vs) (k : Ext W w) : Ob w b T vs := (k.block b h.lt).trans h
theorem Ob.alloc (h : Ob w b T vs) (o : Obj) : Ob (w.alloc o) b T vs := (Below.heap_alloc w o b h.lt).trans h
theorem Ob.set (h : Ob w b T vs) (i : Nat) (u : Value) : Ob (w.setCell ⟨b, i, none⟩ u) b T (vs.set i u) := by
  have := heap_setCell_same w b i vs.toArray T u h
  unfold Ob
  rw [this]
  simp
theorem Ob.far (h : Ob w b T vs) (p : Addr) (u : Value) (hp : b ≠ p.block) : Ob (w.setCell p u) b T vs := (Below.heap_setCell w p u b hp).trans h
theorem Ob.grown {row : Option Nat} (h : Ob w b T vs) (hg : w.grownBy w' row) (hn : some b ≠ row) : Ob w' b T vs := (hg.block b h.lt hn).trans h
theorem Ob.new (w : World) (T : TypeId) (vs : List Value) : Ob (w.alloc (.cells vs.toArray T)) w.heap.size T vs := heap_alloc_new w _
theorem Ob.not_own {base e size n : Nat} {v : Value} {xs : List Value} (hO : Ob w b T vs) (h : w.ownsRow base e size v n xs) (hT : e ≠ T) : v.ownBlock ≠ some b := by
  rcases h.2 with ⟨rfl, _⟩ | ⟨g, cap, cur, rfl, _, hh, _⟩
  · simp [Value.ownBlock]
  · intro he
    obtain rfl : g = b := by simpa [Value.ownBlock] using he
    unfold Ob at hO; rw [hh] at hO; injection hO with hO; injection hO with _ e'; exact hT e'
end

/-- Where a cut from l on begins. -/
def cutA (a : Option Addr) (l m s : Nat) : Option Addr := if m = l then a else a.map (·.add (l * s))
theorem sliced_eq (a : Option Addr) (l h m s : Nat) : sliced a l h m s = .slice (cutA a l m s) (h - l) (m - l) := rfl
/-- The slice v has n elements of sz cells each, with the cells xs, none of which lies in a block of S. -/
def Sl (w : World) (S : List Nat) (sz : Nat) (v : Value) (n : Nat) (xs : List Value) : Prop :=
  ∃ A cap, v = .slice A n cap ∧ n ≤ cap ∧ cap ≤ maxLen ∧ xs.length = n * sz ∧
    (xs = [] ∨ ∃ b o, A = some ⟨b, o, none⟩ ∧ b ∉ S ∧ ∀ j u, xs[j]? = some u → w.cell? ⟨b, o + j, none⟩ = some u)

section
variable {S S' : List Nat} {W w w' : World} {sz n : Nat} {v : Value} {xs : List Value}
theorem Sl.keep (h : Sl W S sz v n xs) (hk : ∀ b o, b ∉ S → b < W.heap.size → w.cell? ⟨b, o, none⟩ = W.cell? ⟨b, o, none⟩) : Sl w S sz v n xs := by
  obtain ⟨A, cap, rfl, h1, h2, h3, h4⟩ := h
  refine ⟨A, cap, rfl, h1, h2, h3, ?_⟩
  rcases h4 with h4 | ⟨b, o, rfl, hb, hc⟩
  · exact .inl h4
  · exact .inr ⟨b, o, rfl, hb, fun j u hu => (hk b (o + j) hb (block_lt_of_cell (hc j u hu))).trans (hc j u hu)⟩
theorem Sl.fr (h : Sl W S sz v n xs) (k : Fr S' W w) (hs : ∀ b, b ∈ S' → b ∈ S) : Sl w S sz v n xs :=
  h.keep fun b o hb hlt => World.cell?_of_block (a := ⟨b, o, none⟩) (k.block b hlt fun m => hb (hs b m))
theorem Sl.ext (h : Sl W S sz v n xs) (k : Ext W w) : Sl w S sz v n xs := h.fr (Fr.of_ext (S := []) k) (by simp)
theorem Sl.alloc (h : Sl w S sz v n xs) (o : Obj) : Sl (w.alloc o) S sz v n xs := h.ext ((Ext.refl w).alloc o)
theorem Sl.set (h : Sl w S sz v n xs) (p : Addr) (u : Value) (hp : p.block ∈ S) : Sl (w.setCell p u) S sz v n xs :=
  h.fr ((Fr.refl [p.block] w).setCell p u (.inl (by simp))) (by simp; exact hp)
theorem Sl.less (h : Sl w S sz v n xs) (hs : ∀ b, b ∈ S' → b ∈ S) : Sl w S' sz v n xs := by
  obtain ⟨A, cap, rfl, h1, h2, h3, h4⟩ := h
  refine ⟨A, cap, rfl, h1, h2, h3, ?_⟩
  rcases h4 with h4 | ⟨b, o, rfl, hb, hc⟩
  · exact .inl h4
  · exact .inr ⟨b, o, rfl, fun m => hb (hs b m), hc⟩
/-- No cell lies in a block that is not there yet. -/
theorem Sl.new (h : Sl w S sz v n xs) (hs : ∀ b, b ∈ S' → b ∈ S ∨ w.heap.size ≤ b) : Sl w S' sz v n xs := by
  obtain ⟨A, cap, rfl, h1, h2, h3, h4⟩ := h
  refine ⟨A, cap, rfl, h1, h2, h3, ?_⟩
  rcases h4 with h4 | ⟨b, o, rfl, hb, hc⟩
  · exact .inl h4
  · rcases xs with _ | ⟨x, r⟩
    · exact .inl rfl
    · exact .inr ⟨b, o, rfl, fun m => (hs b m).elim hb (fun hle => by have := block_lt_of_cell (hc 0 x rfl); simp at this; omega), hc⟩
theorem Sl.nil (w : World) (S : List Nat) (sz : Nat) : Sl w S sz (.slice none 0 0) 0 [] := ⟨none, 0, rfl, Nat.le_refl _, Nat.zero_le _, by simp, .inl rfl⟩
theorem Sl.le (h : Sl w S sz v n xs) : n ≤ maxLen := by obtain ⟨_, _, _, h1, h2, _, _⟩ := h; omega
theorem Sl.own {base e : Nat} (h : w.ownsRow base e sz v n xs) (hs : ∀ b, b ∈ S → b < base) : Sl w S sz v n xs := by
  rcases h.2 with ⟨rfl, rfl⟩ | ⟨g, cap, cur, rfl, hb, hg, hn, hc, hcs, ht⟩
  · obtain rfl : xs = [] := List.eq_nil_of_length_eq_zero (by simpa using h.1)
    exact Sl.nil w S sz
  · refine ⟨_, cap, rfl, hn, hc, h.1, .inr ⟨g, 0, rfl, fun m => by have := hs g m; omega, fun j u hu => ?_⟩⟩
    have := h.cells (g := g) rfl j u hu
    rwa [add_plain] at this
/-- The cut from l on, up to h. -/
theorem Sl.cut {A : Option Addr} {cap : Nat} (h : Sl w S sz (.slice A n cap) n xs) (l k m : Nat) (hl : l ≤ k) (hk : k ≤ n) (hm : k ≤ m) (hmc : m ≤ cap) :
    Sl w S sz (sliced A l k m sz) (k - l) ((xs.take (k * sz)).drop (l * sz)) := by
  obtain ⟨A', cap', e, h1, h2, h3, h4⟩ := h
  simp only [Value.slice.injEq, true_and] at e
  obtain ⟨rfl, rfl⟩ := e
  have hmul : k * sz ≤ n * sz := Nat.mul_le_mul_right _ hk
  have hlen : ((xs.take (k * sz)).drop (l * sz)).length = (k - l) * sz := by rw [List.length_drop, List.length_take, h3, Nat.min_eq_left hmul, Nat.sub_mul]
  refine ⟨_, _, rfl, by omega, by omega, hlen, ?_⟩
  by_cases hz : (xs.take (k * sz)).drop (l * sz) = []
  · exact .inl hz
  right
  have hpos : 0 < (k - l) * sz := by rw [← hlen]; exact List.length_pos_iff.2 hz
  have hlk : l < k := by
    rcases Nat.lt_or_ge l k with h | h
    · exact h
    · rw [show k - l = 0 by omega, Nat.zero_mul] at hpos; omega
  rcases h4 with rfl | ⟨b, o, rfl, hb, hc⟩
  · simp at hz
  refine ⟨b, o + l * sz, by rw [if_neg (by omega)]; simp [add_plain], hb, fun j u hu => ?_⟩
  rw [List.getElem?_drop] at hu
  rw [Nat.add_assoc]
  refine hc _ u ?_
  rw [List.getElem?_take] at hu
  split at hu
  · exact hu
  · cases hu
end

theorem own_form {w : World} {base e sz n : Nat} {v : Value} {xs : List Value} (h : w.ownsRow base e sz v n xs) : ∃ A cap, v = .slice A n cap := by
  rcases h.2 with ⟨rfl, rfl⟩ | ⟨g, cap, cur, rfl, _⟩
  · exact ⟨_, _, rfl⟩
  · exact ⟨_, _, rfl⟩
/-- A type of slices whose elements have size cells. -/
structure ElemT (P : Program) (t e : TypeId) (z : Value) (size bytes : Nat) : Prop where
  under : P.underlying t = some (.slice e)
  info : ∃ i, P.info? e = some i ∧ i.zero = some z ∧ i.size = size ∧ i.bytes = bytes
  zero : z.cells.size = size
  pos : 0 < size
theorem ElemT.mk' {P : Program} {t e : TypeId} {z : Value} {size bytes : Nat} (h : P.underlying t = some (.slice e)) (hi : (P.info? e).map (fun i => (i.zero, i.size, i.bytes)) = some (some z, size, bytes)) (hz : z.cells.size = size) (hp : 0 < size) : ElemT P t e z size bytes := by
  obtain ⟨i, h1, h2, h3, h4⟩ := info_parts hi
  exact ⟨h, ⟨i, h1, h2, h3, h4⟩, hz, hp⟩

section
variable {P : Program} {w : World}
theorem run_app {t tx ty e : TypeId} {z : Value} {size bytes base n m : Nat} {v x : Value} {xs news : List Value} (T : ElemT P t e z size bytes) (hown : w.ownsRow base e size v n xs) (hs : Src P size tx x m news w)
    (h63 : n + m ≤ maxLen) (hbytes : (n + m) * bytes ≤ 140737488355328) (hbase : base ≤ w.heap.size) :
    ∃ v' w', (Builtin.append_ #[t, tx] ty #[v, x]).run P w = .ok v' w' ∧ w'.ownsRow base e size v' (n + m) (xs ++ news) ∧ w.grownBy w' v.ownBlock ∧ (v'.ownBlock = v.ownBlock ∨ v'.ownBlock = some w.heap.size) := by
  obtain ⟨ht, ⟨i, hi, hz, hsize, hby⟩, hzs, hsz⟩ := T
  subst hsize
  subst hby
  have hsmall : n + m ≤ 9223372036854775807 := by simp only [maxLen] at h63; omega
  have hlen : (xs ++ news).length = (n + m) * i.size := by rw [List.length_append, hown.1, hs.newsLen, Nat.add_mul]
  have grown : ∀ (old : Nat), old < n + m → ∀ (row : Option Nat),
      (w.drew.alloc (.cells ((xs ++ news).toArray ++ Builtin.zeroCells z.cells (grownCap w (n + m) old e - (n + m))) e)).ownsRow base e i.size
        (.slice (some ⟨w.heap.size, 0, none⟩) (n + m) (grownCap w (n + m) old e)) (n + m) (xs ++ news) ∧
      w.grownBy (w.drew.alloc (.cells ((xs ++ news).toArray ++ Builtin.zeroCells z.cells (grownCap w (n + m) old e - (n + m))) e)) row := by
    intro old ho row
    have hge := grownCap_ge w (n + m) old e
    have hcm : grownCap w (n + m) old e ≤ maxLen := grownCap_le_maxLen w (n + m) old e h63
    refine ⟨⟨hlen, .inr ⟨w.heap.size, _, _, rfl, hbase, heap_alloc_new w.drew _, hge, hcm, ?_, ?_⟩⟩, ⟨rfl, rfl, rfl, by simp, fun k hk _ => Below.heap_alloc w.drew _ k hk⟩⟩
    · simp only [Array.size_append, List.size_toArray, size_zeroCells, hzs, hlen, ← Nat.add_mul]
      congr 1
      omega
    · simp only [Array.toList_append]
      rw [← hlen]
      exact List.take_left
  rcases hown.2 with ⟨rfl, rfl⟩ | ⟨g, cap, cur, rfl, hbg, hg, hnc, hcm, hcs, htake⟩
  · have hx : xs = [] := List.eq_nil_of_length_eq_zero (by simpa using hown.1)
    subst hx
    by_cases hm : m = 0
    · subst hm
      have hn : news = [] := List.eq_nil_of_length_eq_zero (by simpa using hs.newsLen)
      subst hn
      refine ⟨.slice none 0 0, w, ?_, World.ownsRow_nil w base e i.size, ⟨rfl, rfl, rfl, Nat.le_refl _, fun _ _ _ => rfl⟩, .inl rfl⟩
      rcases hs.kind with ⟨e', hk⟩ | hk <;> simp [Builtin.append_, run_underlying ht, run_underlying hk, sizeOf, typeInfo, hi, hs.len, hs.cells]
    · have hr := run_append_grow_src (P := P) w t tx ty e i z ht hi hz none 0 0 [] (by simp [Builtin.firstCells]) x m news hs (by omega) (by omega) (growslice_fits (by omega) hbytes)
      have hgr := grown 0 (by omega) (Value.ownBlock (.slice none 0 0))
      simp only [Nat.zero_add, List.nil_append] at hgr hr ⊢
      exact ⟨_, _, hr, hgr.1, hgr.2, .inr rfl⟩
  · by_cases hroom : n + m ≤ cap
    · have hfit : n * i.size + news.length ≤ cur.size := by rw [hs.newsLen, hcs, ← Nat.add_mul]; exact Nat.mul_le_mul_right _ hroom
      have hst := run_storeCells_at P g (n * i.size) e news 0 cur w hg (by simpa using hfit) hs.one
      simp only [Nat.add_zero] at hst
      have hr : (Builtin.append_ #[t, tx] ty #[.slice (some ⟨g, 0, none⟩) n cap, x]).run P w =
          .ok (.slice (some ⟨g, 0, none⟩) (n + m) cap) (w.setRow g (cur.toList.take (n * i.size) ++ news ++ cur.toList.drop (n * i.size + news.length)).toArray) := by
        rcases hs.kind with ⟨e', hk⟩ | hk <;> simp [Builtin.append_, run_underlying ht, run_underlying hk, sizeOf, typeInfo, hi, hs.len, hroom, hs.cells, Addr.add_lit, hst]
      refine ⟨_, _, hr, ⟨hlen, .inr ⟨g, cap, _, rfl, hbg, setRow_heap w g cur _ e _ hg, hroom, hcm, ?_, ?_⟩⟩, ⟨rfl, rfl, rfl, by simp, fun k _ hk => setRow_other w g k _ (fun e => hk (by simp [Value.ownBlock, e]))⟩, .inl rfl⟩
      · simp only [List.size_toArray, List.length_append, List.length_take, List.length_drop, Array.length_toList]
        omega
      · rw [htake, ← hlen]
        exact List.take_left
    · have holds : ∀ j u, xs[j]? = some u → w.drew.cell? ((⟨g, 0, none⟩ : Addr).add j) = some u := hown.cells (g := g) rfl
      have hr := run_append_grow_src (P := P) w t tx ty e i z ht hi hz (some ⟨g, 0, none⟩) n cap xs (run_firstCells_some w.drew i.size n _ n cap xs hown.1 holds) x m news hs (by omega) (by omega) (growslice_fits (by omega) hbytes)
      have hgr := grown cap (by omega) (Value.ownBlock (.slice (some ⟨g, 0, none⟩) n cap))
      exact ⟨_, _, hr, hgr.1, hgr.2, .inr rfl⟩

theorem wpl_app {ops : Array Oper} {rest : List Oper} {o : Oper} {a : Act} {Q : Exit → Act → World → Prop} {t tx e : TypeId} {z : Value} {size bytes base n m : Nat} {v x : Value} {xs news : List Value} (T : ElemT P t e z size bytes)
    (hgd : o.guard = none) (s y : Operand) (ho : o.op = .call { callee := .builtin .append, args := #[s, y], argTypes := #[t, tx] }) (hv : a.eval s = v) (hown : w.ownsRow base e size v n xs) (hx : a.eval y = x) (hs : Src P size tx x m news w)
    (h63 : n + m ≤ maxLen) (hbytes : (n + m) * bytes ≤ 140737488355328) (hbase : base ≤ w.heap.size)
    (h : ∀ v' w', w'.ownsRow base e size v' (n + m) (xs ++ news) → w.grownBy w' v.ownBlock → (v'.ownBlock = v.ownBlock ∨ v'.ownBlock = some w.heap.size) → wpList P ops Q rest (a.put o.dst v') w') : wpList P ops Q (o :: rest) a w := by
  refine wpList_plain hgd fun K hK => ?_
  obtain ⟨v', w', hr, h2, h3, h4⟩ := run_app (ty := o.type) T hown hs h63 hbytes hbase
  unfold Oper.wp execOp
  simp only [ho, resolve, invoke, builtin, Sem.run_bind, Sem.run_pure, Result.andThen_ok, List.map_toArray, List.map_cons, List.map_nil, hv, hx, hr]
  exact hK _ _ (h v' w' h2 h3 h4)

/-- What a slice has, appended. -/
theorem src_sl {tx e' : TypeId} {S : List Nat} {size n : Nat} {v : Value} {xs : List Value} (hk : P.underlying tx = some (.slice e')) (h : Sl w S size v n xs) (h1 : ∀ u ∈ xs, u.oneCell' = true) (hp : 0 < size) : Src P size tx v n xs w := by
  obtain ⟨A, cap, rfl, hn, hc, hl, h4⟩ := h
  rcases h4 with rfl | ⟨b, o, rfl, _, hcell⟩
  · obtain rfl : n = 0 := by
      rcases Nat.eq_zero_or_pos n with h | h
      · exact h
      · have := Nat.mul_pos h hp; simp at hl; omega
    cases A with
    | none => exact ⟨.inl ⟨e', hk⟩, fun _ => rfl, run_firstCells_none w size 0 0 cap, run_firstCells_none w.drew size 0 0 cap, by simp, fun _ h => by cases h⟩
    | some ad => exact Src.ofSlice _ hk _ 0 cap [] (by simp) (fun j u hu => by simp at hu) (by simp)
  · exact Src.ofSlice _ hk _ n cap xs hl (fun j u hu => by rw [add_plain]; exact hcell j u hu) h1
end

/-- Bytes as cells. -/
def bs (l : List UInt8) : List Value := l.map fun b => Value.int .u8 b.toNat
theorem own_ext {w w' : World} {base e size n : Nat} {v : Value} {xs : List Value} (h : w.ownsRow base e size v n xs) (k : Ext w w') : w'.ownsRow base e size v n xs :=
  h.kept (World.grownBy.mk (row := none) k.os k.tape k.output k.size fun i hi _ => k.block i hi) (by cases v.ownBlock <;> simp)
/-- A slice of bytes. -/
abbrev By (w : World) (S : List Nat) (v : Value) (l : List UInt8) : Prop := Sl w S 1 v l.length (bs l)
theorem own_base {w : World} {B B' e size n : Nat} {v : Value} {xs : List Value} (h : w.ownsRow B e size v n xs) (hb : B' ≤ B) : w.ownsRow B' e size v n xs := ⟨h.1, h.2.imp id fun ⟨g, cap, cur, e, hg, r⟩ => ⟨g, cap, cur, e, by omega, r⟩⟩

section
variable {P : Program} {w : World}
end
end Go.Proofs.YtljkneajdndgjabGreat
